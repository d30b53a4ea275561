/-
  Parts of the proof: Put, Put2, Begun, Row, Sub1, Sub2, Sub3, Sub4, Sub5, Sub7, Plain1.
-/
import Derived.Deep.RegionWith
import Derived.Test.YtglohanbpjaieaaGreatBru1
import Derived.Deep.DeepCutAuto
set_option maxHeartbeats 2000000
set_option maxRecDepth 100000
namespace Go.Proofs.YtglohanbpjaieaaGreat
open Go.Proofs Go.RowKit Go.Shelf
def Tm.put (zs:List Int) (k:Nat) (us:List Int):List Int:=zs.take k++us++zs.drop (Tm.ai zs k)
def Tm.fZ (zs:List Int) (k:Int) (us:List Int):Int :=
 if Tm.err zs = 0 then (if Tm.err us = 0 then (if eZ k 0 ((zs.length:Int) - 1) = true then (if 30 < (Tm.put zs k.toNat us).length then 2 else 0) else 3) else Tm.err us) else Tm.err zs
def Tm.dX (zs:List Int) (k:Int) (us:List Int):List Int:=if Tm.fZ zs k us = 0 then Tm.put zs k.toNat us else []
theorem Tm.sw {zs us:List Int} {k:Nat} (hk:k < zs.length):(Tm.put zs k us).length = k+us.length+(zs.length - Tm.ai zs k):=by
 simp only [Tm.put,List.length_append,List.length_take,List.length_drop];omega
theorem Tm.bM {zs:List Int} (he:Tm.err zs = 0):0 < zs.length:=by
 have h:=Tm.eT he;have:=Tm.GL zs 1
 omega
theorem Ints.some {n:Nat} {W:World} {a:Option Addr} {zs:List Int} (h:Ints n W a zs) (h0:0 < zs.length):a≠none:=by
 obtain ⟨b,off,rfl,_⟩:=h.at h0;simp
theorem Ints.take {n:Nat} {W:World} {a:Option Addr} {zs:List Int} (h:Ints n W a zs) (k:Nat):Ints n W a (zs.take k):=fun j hj=>by
 rw [List.length_take] at hj;obtain ⟨b,off,e,hb,hc⟩:=h j (by omega);refine ⟨b,off,e,hb,?_⟩;rw [hc];simp [show j < k from by omega]
theorem aM {W:World} {b:Nat} {cs:Array Value} {t:TypeId} {fr:Nat × Nat} (h:W.heap[b]? = some (.cells cs t fr)) (k:Nat):W.cell? ⟨b,k,none⟩ = cs[k]?:=by simp [World.cell?,h]
theorem VI (xs us ys:List Int) (ax au ay:Option Addr) (cx cu cy nx ny:Nat) (W:World) (hX:Ints W.heap.size W ax xs) (hU:Ints W.heap.size W au us) (hY:Ints W.heap.size W ay ys) (hnx:nx = xs.length) (hny:ny = ys.length)
 (nX:ax≠none) (nU:au≠none) (nY:ay≠none) (h0:0 < us.length) (hl:xs.length+us.length+ys.length≤1000) :
 Calls Tryz.prog 105 #[.slice (some ⟨W.heap.size,0,none⟩) 3 3] (W.alloc (.cells #[.slice ax nx cx,.slice au us.length cu,.slice ay ny cy] 35)) fun e w'=>∃ v,e = .returned v∧New W.heap.size w' v (xs++us++ys)∧Below W.heap.size W w':=by
 subst hnx hny;have hB:Below W.heap.size W (W.alloc (.cells #[.slice ax xs.length cx,.slice au us.length cu,.slice ay ys.length cy] 35)):=(Below.refl _ _).alloc (Nat.le_refl _) _;have hh:=World.alloc_heap_new W (.cells #[.slice ax xs.length cx,.slice au us.length cu,.slice ay ys.length cy] 35);have h:=Lp [xs,us,ys] (fun j=>if j = 0 then ax else if j = 1 then au else ay) (fun j=>if j = 0 then cx else if j = 1 then cu else cy) W.heap.size 3 (W.alloc (.cells #[.slice ax xs.length cx,.slice au us.length cu,.slice ay ys.length cy] 35))
  (by simp) (by simp [lens];omega) (by simp [lens];omega) (by simp)
  (fun j hj=>by
    match j,hj with
    | 0,_=>rw [aM hh];rfl
    | 1,_=>rw [aM hh];rfl
    | 2,_=>rw [aM hh];rfl)
  (fun j hj=>by
    match j,hj with
    | 0,_=>exact (hX.below hB).mono hB.size
    | 1,_=>exact (hU.below hB).mono hB.size
    | 2,_=>exact (hY.below hB).mono hB.size)
  (fun j hj e=>by
    match j,hj with
    | 0,_=>exact absurd e nX
    | 1,_=>exact absurd e nU
    | 2,_=>exact absurd e nY)
 refine h.mono ?_;rintro e w' ⟨v,rfl,hN,hB'⟩;exact ⟨v,rfl,by simpa using hN.mono (by simp),hB.trans (hB'.mono (by simp))⟩
theorem VJ (zs us:List Int) (b off:Nat) (au:Option Addr) (cap cu j:Nat) (w:World) (hI:Ints w.heap.size w (some ⟨b,off,none⟩) zs) (hU:Ints w.heap.size w au us) (hcap:zs.length≤cap) (hcap2:cap≤maxLen) (he:Tm.err zs = 0) (hu:Tm.err us = 0) (hj:j < zs.length) :
 Calls Tryz.prog 75 #[.slice (some ⟨b,off,none⟩) zs.length cap,.int .i64 (j:Int),.slice au us.length cu] w fun e w'=>∃ v,e = .returned (.tuple #[v,.int .i64 (if 30 < (Tm.put zs j us).length then 2 else 0)])∧New w.heap.size w' v (if 30 < (Tm.put zs j us).length then [] else Tm.put zs j us)∧Below w.heap.size w w':=by
 have jw:=dZ zs (some ⟨b,off,none⟩) cap w hI;have hC2:∀ W,Below w.heap.size w W→Calls Tryz.prog 49 #[.slice au us.length cu] W fun e w'=>e = .returned (.int .i64 0)∧Below W.heap.size W w':=fun W hW=>by
  have h:=dZ us au cu W ((hU.below hW).mono hW.size);rw [hu] at h;exact h
 have Ru:=show Hid _ from hC2
 rw [he] at jw;have hp:eZ (j:Int) 0 ((zs.length:Int) - 1) = true:=(mX _ _ _).2 ⟨by omega,by omega⟩;have hE:∀ W,Below w.heap.size w W→Calls Tryz.prog 69 #[.slice (some ⟨b,off,none⟩) zs.length cap,.int .i64 (j:Int)] W fun e w'=>e = .returned (.int .i64 (Tm.ai zs j:Int))∧Below W.heap.size W w' :=
  fun W hW=>qV zs (Tm.aI he) _ cap j (by have:=Tm.aI he;omega) W ((hI.below hW).mono hW.size)
 have HE:=show Hid _ from hE
 have hei:=Tm.fV he hj;have heg:=Tm.dw zs j;have jD:=Tm.aI he;have ab6:=Tm.aI hu;have hlen:=Tm.sw (us:=us) hj;have hcon:∀ (W:World) (a3:Option Addr) (n3 c3:Nat),Below w.heap.size w W→Ints w.heap.size w a3 (zs.drop (Tm.ai zs j))→a3≠none→n3 = zs.length - Tm.ai zs j →
  Calls Tryz.prog 105 #[.slice (some ⟨W.heap.size,0,none⟩) 3 3] (W.alloc (.cells #[.slice (some ⟨b,off,none⟩) j cap,.slice au us.length cu,.slice a3 n3 c3] 35)) fun e w'=>∃ v,e = .returned v∧New w.heap.size w' v (Tm.put zs j us)∧Below w.heap.size w w':=by
  intro W a3 n3 c3 hW yC hn3 hl3;refine (VI (zs.take j) us (zs.drop (Tm.ai zs j)) (some ⟨b,off,none⟩) au a3 cap cu c3 j n3 W (((hI.below hW).mono hW.size).take j) ((hU.below hW).mono hW.size) ((yC.below hW).mono hW.size)
   (by rw [List.length_take];omega) (by rw [List.length_drop];omega) (by simp) (hU.some (Tm.bM hu)) hn3 (Tm.bM hu) (by rw [List.length_take,List.length_drop];omega)).mono ?_
  rintro e w' ⟨v,rfl,hN,hB⟩;exact ⟨v,rfl,hN.mono hW.size,hW.trans (hB.mono hW.size)⟩
 have HCo:=show Hid _ from hcon
 have HI:=show Hid _ from hI
 clear hC2 hE hcon hI hU;unfold maxLen at hcap2;generalize hq:Tm.ai zs j = q at *;clear hq he hu;generalize Tm.put zs j us = pt at *;have h1:(j:Int) < (zs.length:Int):=by omega
 have h2:(zs.length:Int)≤(cap:Int):=by omega
 have h3:(zs.length:Int)≤30:=by omega
 have h4:(q:Int)≤(zs.length:Int):=by omega
 have h5:(j:Int)≤(cap:Int):=by omega
 have h6:(cap:Int)≤9223372036854775807:=by omega
 have hpl:(pt.length:Int)≤1000:=by omega
 have Hlen:=show Hid _ from hlen
 clear hlen;by_cases hz:cap - q = 0
 ·obtain ⟨rfl,rfl⟩:zs.length = cap∧q = zs.length:=by omega
  by_cases hbig:30 < pt.length
  ·have hbig':(30:Int) < (pt.length:Int):=by omega
   rw [if_pos hbig,if_pos hbig];clear hbig;go_enter Tryz.func75,Tryz.ntmps75;go_wp2_with fail;refine jw.mono ?_;rintro e w1 ⟨rfl,hB1⟩;go_wp2_with fail;refine (Ru.out _ hB1).mono ?_;rintro e w2 ⟨rfl,hB2⟩;have dN:=hB1.trans (hB2.mono hB1.size);go_wp2_with (go_at_call 104;refine (jK _ _ _ _ _).mono ?_;rw [hp];rintro e w2 ⟨rfl,rfl⟩)
   go_region_with (first
    | (go_at_call 69;refine (HE.out _ (by exact below_drewN dN 1)).mono ?_;rintro e w3 ⟨rfl,hB3⟩;have zq:=(below_drewN dN 1).trans (hB3.mono dN.size))
    | (go_at_call 105;refine (HCo.out _ (some ⟨b,off,none⟩) _ _ zq (by rw [List.drop_length];exact Ints.nil _ _ _) (by simp) (by omega)).mono ?_;rintro e w4 ⟨v,rfl,hN,hB4⟩;obtain ⟨a',c',rfl,_⟩:=New.ints hN))
   all_goals (
    go_wp2;go_ret2
    exact ⟨_,rfl,New.nil _ _,hB4⟩)
  ·have hbig':(pt.length:Int)≤30:=by omega
   rw [if_neg hbig,if_neg hbig];clear hbig;go_enter Tryz.func75,Tryz.ntmps75;go_wp2_with fail;refine jw.mono ?_;rintro e w1 ⟨rfl,hB1⟩;go_wp2_with fail;refine (Ru.out _ hB1).mono ?_;rintro e w2 ⟨rfl,hB2⟩;have dN:=hB1.trans (hB2.mono hB1.size);go_wp2_with (go_at_call 104;refine (jK _ _ _ _ _).mono ?_;rw [hp];rintro e w2 ⟨rfl,rfl⟩)
   go_region_with (first
    | (go_at_call 69;refine (HE.out _ (by exact below_drewN dN 1)).mono ?_;rintro e w3 ⟨rfl,hB3⟩;have zq:=(below_drewN dN 1).trans (hB3.mono dN.size))
    | (go_at_call 105;refine (HCo.out _ (some ⟨b,off,none⟩) _ _ zq (by rw [List.drop_length];exact Ints.nil _ _ _) (by simp) (by omega)).mono ?_;rintro e w4 ⟨v,rfl,hN,hB4⟩;obtain ⟨a',c',rfl,_⟩:=New.ints hN))
   all_goals (
    go_wp2;go_ret2
    exact ⟨_,rfl,hN,hB4⟩)
 ·by_cases hbig:30 < pt.length
  ·have hbig':(30:Int) < (pt.length:Int):=by omega
   rw [if_pos hbig,if_pos hbig];clear hbig;go_enter Tryz.func75,Tryz.ntmps75;go_wp2_with fail;refine jw.mono ?_;rintro e w1 ⟨rfl,hB1⟩;go_wp2_with fail;refine (Ru.out _ hB1).mono ?_;rintro e w2 ⟨rfl,hB2⟩;have dN:=hB1.trans (hB2.mono hB1.size);go_wp2_with (go_at_call 104;refine (jK _ _ _ _ _).mono ?_;rw [hp];rintro e w2 ⟨rfl,rfl⟩)
   go_region_with (first
    | (go_at_call 69;refine (HE.out _ (by exact below_drewN dN 1)).mono ?_;rintro e w3 ⟨rfl,hB3⟩;have zq:=(below_drewN dN 1).trans (hB3.mono dN.size))
    | (go_at_call 105;refine (HCo.out _ (some ⟨b,off+q,none⟩) _ _ zq (Ints.drop HI.out q) (by simp) (by omega)).mono ?_;rintro e w4 ⟨v,rfl,hN,hB4⟩;obtain ⟨a',c',rfl,_⟩:=New.ints hN))
   all_goals (
    go_wp2;go_ret2
    exact ⟨_,rfl,New.nil _ _,hB4⟩)
  ·have hbig':(pt.length:Int)≤30:=by omega
   rw [if_neg hbig,if_neg hbig];clear hbig;go_enter Tryz.func75,Tryz.ntmps75;go_wp2_with fail;refine jw.mono ?_;rintro e w1 ⟨rfl,hB1⟩;go_wp2_with fail;refine (Ru.out _ hB1).mono ?_;rintro e w2 ⟨rfl,hB2⟩;have dN:=hB1.trans (hB2.mono hB1.size);go_wp2_with (go_at_call 104;refine (jK _ _ _ _ _).mono ?_;rw [hp];rintro e w2 ⟨rfl,rfl⟩)
   go_region_with (first
    | (go_at_call 69;refine (HE.out _ (by exact below_drewN dN 1)).mono ?_;rintro e w3 ⟨rfl,hB3⟩;have zq:=(below_drewN dN 1).trans (hB3.mono dN.size))
    | (go_at_call 105;refine (HCo.out _ (some ⟨b,off+q,none⟩) _ _ zq (Ints.drop HI.out q) (by simp) (by omega)).mono ?_;rintro e w4 ⟨v,rfl,hN,hB4⟩;obtain ⟨a',c',rfl,_⟩:=New.ints hN))
   all_goals (
    go_wp2;go_ret2
    exact ⟨_,rfl,hN,hB4⟩)
theorem Tm.Qj {zs us:List Int} {k:Int} (he:Tm.err zs≠0):Tm.fZ zs k us = Tm.err zs:=by simp [Tm.fZ,he]
theorem Tm.Qk {zs us:List Int} {k:Int} (he:Tm.err zs = 0) (hu:Tm.err us≠0):Tm.fZ zs k us = Tm.err us:=by simp [Tm.fZ,he,hu]
theorem Tm.Tp {zs us:List Int} {k:Int} (he:Tm.err zs = 0) (hu:Tm.err us = 0) (hk:eZ k 0 ((zs.length:Int) - 1) = false):Tm.fZ zs k us = 3:=by simp [Tm.fZ,he,hu,hk]
theorem Tm.BL {zs us:List Int} {j:Nat} (he:Tm.err zs = 0) (hu:Tm.err us = 0) (hk:eZ (j:Int) 0 ((zs.length:Int) - 1) = true):Tm.fZ zs (j:Int) us = if 30 < (Tm.put zs j us).length then 2 else 0:=by
 simp [Tm.fZ,he,hu,hk]
theorem Tm.Gh {zs us:List Int} {j:Nat} (he:Tm.err zs = 0) (hu:Tm.err us = 0) (hk:eZ (j:Int) 0 ((zs.length:Int) - 1) = true):Tm.dX zs (j:Int) us = if 30 < (Tm.put zs j us).length then [] else Tm.put zs j us:=by
 unfold Tm.dX;rw [Tm.BL he hu hk];by_cases h:30 < (Tm.put zs j us).length <;> simp [h]
theorem Tm.sD {zs us:List Int} {k:Int} (h:Tm.fZ zs k us≠0):Tm.dX zs k us = []:=by simp [Tm.dX,h]
theorem Cn (zs us:List Int) (a au:Option Addr) (cap cu:Nat) (k:Int) (w:World) (hI:Ints w.heap.size w a zs) (hU:Ints w.heap.size w au us) (hcap:zs.length≤cap) (hcap2:cap≤maxLen) :
 Calls Tryz.prog 75 #[.slice a zs.length cap,.int .i64 k,.slice au us.length cu] w fun e w'=>∃ v,e = .returned (.tuple #[v,.int .i64 (Tm.fZ zs k us)])∧New w.heap.size w' v (Tm.dX zs k us)∧Below w.heap.size w w':=by
 have jw:=dZ zs a cap w hI;by_cases he:Tm.err zs = 0
 ·have hC2:∀ W,Below w.heap.size w W→Calls Tryz.prog 49 #[.slice au us.length cu] W fun e w'=>e = .returned (.int .i64 (Tm.err us))∧Below W.heap.size W w':=fun W hW=>dZ us au cu W ((hU.below hW).mono hW.size)
  have Ru:=hid (hC2);clear hC2;by_cases hu:Tm.err us = 0
  ·by_cases hp:eZ k 0 ((zs.length:Int) - 1) = true
   ·have hk:=(mX _ _ _).1 hp
    obtain ⟨j,rfl⟩:∃ j:Nat,k = (j:Int):=⟨k.toNat,by omega⟩;obtain ⟨b,off,rfl,_⟩:=hI.at (by omega);rw [Tm.BL he hu hp,Tm.Gh he hu hp];exact VJ zs us b off au cap cu j w hI hU hcap hcap2 he hu (by omega)
   ·have hp':eZ k 0 ((zs.length:Int) - 1) = false:=by simpa using hp
    have hpe:=Tm.Tp (us:=us) he hu hp';rw [Tm.sD (by rw [hpe];decide),hpe];rw [he] at jw;rw [hu] at Ru;clear hpe hp he hu hI hU hcap2;go_enter Tryz.func75,Tryz.ntmps75;go_wp2_with fail;refine jw.mono ?_;rintro e w1 ⟨rfl,hB1⟩;go_wp2_with fail;refine (Ru.out _ hB1).mono ?_;rintro e w2 ⟨rfl,hB2⟩;go_wp2_with (go_at_call 104;refine (jK _ _ _ _ _).mono ?_;rw [hp'];rintro e w2 ⟨rfl,rfl⟩)
    go_ret2
    exact ⟨_,rfl,New.nil _ _,hB1.trans (hB2.mono hB1.size)⟩
  ·have hpe:=Tm.Qk (k:=k) he hu
   rw [Tm.sD (by rw [hpe];exact hu),hpe];have hne:(Tm.err us != 0) = true:=by simp [hu]
   rw [he] at jw;clear hpe he hu hI hU hcap2;generalize Tm.err us = q at *;go_enter Tryz.func75,Tryz.ntmps75;go_wp2_with fail;refine jw.mono ?_;rintro e w1 ⟨rfl,hB1⟩;go_wp2_with fail;refine (Ru.out _ hB1).mono ?_;rintro e w2 ⟨rfl,hB2⟩;go_wp2;go_ret2
   exact ⟨_,rfl,New.nil _ _,hB1.trans (hB2.mono hB1.size)⟩
 ·have hpe:=Tm.Qj (us:=us) (k:=k) he
  rw [Tm.sD (by rw [hpe];exact he),hpe];have hne:(Tm.err zs != 0) = true:=by simp [he]
  clear hpe he hI hU hcap2;generalize Tm.err zs = q at *;go_enter Tryz.func75,Tryz.ntmps75;go_wp2_with fail;refine jw.mono ?_;rintro e w1 ⟨rfl,hB1⟩;go_wp2;go_ret2
  exact ⟨_,rfl,New.nil _ _,hB1⟩
theorem Mg (zs us:List Int) (a au:Option Addr) (cap cu j:Nat) (w:World) (hI:Ints w.heap.size w a zs) (hU:Ints w.heap.size w au us) (hcap:zs.length≤cap) (hcap2:cap≤maxLen) (he:Tm.err zs = 0) (hu:Tm.err us = 0) (hj:j < zs.length) :
 Calls Tryz.prog 113 #[.slice a zs.length cap,.int .i64 (j:Int),.slice au us.length cu] w fun e w'=>∃ v,e = .returned v∧New w.heap.size w' v (Tm.put zs j us)∧Below w.heap.size w w':=by
 have jD:=Tm.aI he;have ab6:=Tm.aI hu;have hei:=Tm.fV he hj;have heg:=Tm.dw zs j;have hUs:=hid (hU.some (Tm.bM hu));obtain ⟨b,off,rfl,hb,_⟩:=hI.at (by omega);have hB0:Below w.heap.size w (w.alloc (.cells #[] 3)):=(Below.refl _ _).alloc (Nat.le_refl _) _;have hl:New w.heap.size (w.alloc (.cells #[] 3)) (.slice (some ⟨w.heap.size,0,none⟩) 0 0) []:=New.lit w.heap.size w [] (Nat.le_refl _) (by unfold maxLen;simp);have hE:∀ W,Below w.heap.size w W→Calls Tryz.prog 120 #[.slice (some ⟨b,off,none⟩) zs.length cap,.int .i64 (j:Int)] W fun e w'=>e = .returned (.int .i64 (Tm.ai zs j:Int))∧Below W.heap.size W w' :=
  fun W hW=>qW zs (some ⟨b,off,none⟩) cap j W ((hI.below hW).mono hW.size) hcap hcap2 he hj
 have HE:=hid (hE);have HU:=hid (hU);have HI:=hid (hI);have hput:Tm.put zs j us = []++zs.take j++us++zs.drop (Tm.ai zs j):=by simp [Tm.put]
 rw [hput];have htl:(zs.take j).length = j:=by rw [List.length_take];omega
 have hdl:(zs.drop (Tm.ai zs j)).length = zs.length - Tm.ai zs j:=by rw [List.length_drop]
 have HT:=hid (hI.take j);have HD:Hid (∀ n X,Ints n X (some ⟨b,off,none⟩) zs→∀ c,Ints n X (if c = 0 then some ⟨b,off,none⟩ else some ⟨b,off+Tm.ai zs j,none⟩) (zs.drop (Tm.ai zs j))∨(c = 0∧zs.drop (Tm.ai zs j)≠[])):=by
  intro n X hX c;by_cases hc:c = 0
  ·by_cases hd:zs.drop (Tm.ai zs j) = []
   ·left;rw [hd];exact Ints.nil _ _ _
   ·right;exact ⟨hc,hd⟩
  ·left;rw [if_neg hc];exact hX.drop _
 have Kb:=hid (htl);have VK:=hid (hdl);unfold maxLen at hcap2;clear hE hU hI hput htl hdl he hu;generalize Tm.ai zs j = q at *;generalize hxs:zs.take j = xs at *;generalize hys:zs.drop q = ys at *;clear hxs hys;have h1:(j:Int)≤(cap:Int):=by omega
 have h2:(q:Int)≤(zs.length:Int):=by omega
 have h3:(zs.length:Int)≤(cap:Int):=by omega
 have h4:(zs.length:Int)≤30:=by omega
 by_cases hz:cap - q = 0
 ·have Tq:ys = []:=List.eq_nil_of_length_eq_zero (by rw [VK.out];omega)
  obtain ⟨rfl,rfl⟩:zs.length = cap∧q = zs.length:=by omega
  clear HD;go_enter Tryz.func113,Tryz.ntmps113;go_wp2_with (first
   | (at_builtin;refine aK _ rfl (.tmp 7) (.tmp 10) rfl w.heap.size _ [] rfl hl (some ⟨b,off,none⟩) xs zs.length (by rw [Kb.out];rfl) (fun h=>by cases h) ((HT.out.below hB0).mono hB0.size) (by rw [Kb.out];simp;omega) hB0.size ?_;intro v1 w1 hN1 hB1;have oW:=hB0.trans hB1;clear hB1)
   | (at_builtin;refine aK _ rfl (.tmp 11) (.tmp 12) rfl w.heap.size _ _ rfl hN1 au us _ rfl (fun h=>absurd h hUs.out) ((HU.out.below oW).mono oW.size) (by rw [List.length_append,Kb.out];simp;omega) oW.size ?_;intro v2 w2 eH hB2;have sF:=oW.trans hB2;clear hB2)
   | (go_at_call 120;refine (HE.out _ sF).mono ?_;rintro e w3 ⟨rfl,hB3⟩;have iD:=New.below eH hB3;have sG:=sF.trans (hB3.mono sF.size);clear hB3)
   | (at_builtin;go_loud (refine aK _ rfl (.tmp 13) (.tmp 18) rfl w.heap.size _ _ rfl iD (some ⟨b,off,none⟩) ys 0 (by rw [Tq];rfl) (fun h=>by cases h) (by rw [Tq];exact Ints.nil _ _ _) (by rw [List.length_append,List.length_append,Kb.out,VK.out];simp;omega) sG.size ?_);intro v4 w4 gI hB4))
  obtain ⟨a4,c4,rfl,_⟩:=New.ints gI;go_ret;exact ⟨_,rfl,gI,sG.trans hB4⟩
 ·have HY:Hid (∀ n X,Ints n X (some ⟨b,off,none⟩) zs→Ints n X (some ⟨b,off+q,none⟩) ys):=fun n X hX=>by
   rcases HD.out n X hX 1 with h | h
   ·simpa using h
   ·exact absurd h.1 (by decide)
  clear HD;go_enter Tryz.func113,Tryz.ntmps113;go_wp2_with (first
   | (at_builtin;refine aK _ rfl (.tmp 7) (.tmp 10) rfl w.heap.size _ [] rfl hl (some ⟨b,off,none⟩) xs cap (by rw [Kb.out];rfl) (fun h=>by cases h) ((HT.out.below hB0).mono hB0.size) (by rw [Kb.out];simp;omega) hB0.size ?_;intro v1 w1 hN1 hB1;have oW:=hB0.trans hB1;clear hB1)
   | (at_builtin;refine aK _ rfl (.tmp 11) (.tmp 12) rfl w.heap.size _ _ rfl hN1 au us _ rfl (fun h=>absurd h hUs.out) ((HU.out.below oW).mono oW.size) (by rw [List.length_append,Kb.out];simp;omega) oW.size ?_;intro v2 w2 eH hB2;have sF:=oW.trans hB2;clear hB2)
   | (go_at_call 120;refine (HE.out _ sF).mono ?_;rintro e w3 ⟨rfl,hB3⟩;have iD:=New.below eH hB3;have sG:=sF.trans (hB3.mono sF.size);clear hB3)
   | (at_builtin;go_loud (refine aK _ rfl (.tmp 13) (.tmp 18) rfl w.heap.size _ _ rfl iD (some ⟨b,off+q,none⟩) ys (cap - q) (by rw [VK.out];rfl) (fun h=>by cases h) (HY.out _ _ ((HI.out.below sG).mono sG.size)) (by rw [List.length_append,List.length_append,Kb.out,VK.out];simp;omega) sG.size ?_);intro v4 w4 gI hB4))
  obtain ⟨a4,c4,rfl,_⟩:=New.ints gI;go_ret;exact ⟨_,rfl,gI,sG.trans hB4⟩
theorem fH (W:World) (zs:List Int) (n:Nat) (hn:n = W.heap.size+1):Ints n (W.alloc (.cells (zs.map (Value.int .i64)).toArray 3)) (some ⟨W.heap.size,0,none⟩) zs:=by
 subst hn;intro j hj;refine ⟨W.heap.size,0,rfl,by omega,?_⟩;rw [aM (World.alloc_heap_new W _)];simp [hj]
theorem Kc (w:World):Calls Tryz.prog 46 #[] w fun e w'=>∃ a,e = .returned (.slice a 4 4)∧Ints w'.heap.size w' a [4,-1,2,0]∧Below w.heap.size w w':=by
 have h:=fH w [4,-1,2,0] _ rfl;simp only [List.map_cons,List.map_nil] at h;go_enter Tryz.func46,Tryz.ntmps46;go_wp2;go_ret;exact ⟨_,rfl,by simpa using h,(Below.refl _ _).alloc (Nat.le_refl _) _⟩
theorem lt_of_cell {W:World} {a:Addr} {v:Value} (h:W.cell? a = some v):a.block < W.heap.size:=by
 obtain ⟨o,ho,_⟩:=not_walk_of_cell h;exact (Array.getElem?_eq_some_iff.1 ho).1
theorem Cr {w:World} {a:Option Addr} {len cap:Nat} {z:List Int}
 (h:(a = none∧len = 0∧cap = 0∧z = [])∨∃ x,a = some x∧len≤cap∧cap≤maxLen∧z.length = cap∧(∀ i,i < z.length→w.cell? (x.add i) = some (.int .i64 (z.getD i 0)))∧∀ n∈z,(Lit.int .i64 n).wf = true) :
 ∃ zs:List Int,zs.length = len∧Ints w.heap.size w a zs∧len≤cap∧cap≤maxLen∧(a = none→cap = 0):=by
 rcases h with ⟨rfl,rfl,rfl,rfl⟩ | ⟨x,rfl,h1,h2,h3,h4,_⟩
 ·exact ⟨[],rfl,Ints.nil _ _ _,Nat.le_refl _,Nat.zero_le _,fun _=>rfl⟩
 ·refine ⟨z.take len,by rw [List.length_take];omega,fun j hj=>?_,h1,h2,fun h=>by cases h⟩
  rw [List.length_take] at hj;have hc:=h4 j (by omega);have hsp:=World.cell?_spot (h4 0 (by omega));obtain ⟨b,off,spot⟩:=x;have hspot:spot = none:=by simpa [Addr.add] using hsp
  subst hspot;rw [Go.WideShapes.add_plain] at hc;refine ⟨b,off,rfl,by simpa using lt_of_cell hc,?_⟩;rw [hc,List.getD_eq_getElem?_getD];simp [show j < len from by omega]
def gu (n:Nat) (W:World) (a:Option Addr) (ss:List (List Int)):Prop :=
 ∀ j,j < ss.length→∃ b off aj cj,a = some ⟨b,off,none⟩∧b < n∧W.cell? ⟨b,off+j,none⟩ = some (.slice aj (ss[j]?.getD []).length cj)∧Ints n W aj (ss[j]?.getD [])∧(ss[j]?.getD []).length≤cj∧cj≤maxLen∧(aj = none→cj = 0)
theorem gu.below {n:Nat} {A B:World} (h:Below n A B) {a:Option Addr} {ss:List (List Int)} (hs:gu n A a ss):gu n B a ss:=fun j hj=>by
 obtain ⟨b,off,aj,cj,e,hb,hc,hI,h1,h2,h3⟩:=hs j hj;exact ⟨b,off,aj,cj,e,hb,(h.cell (p:=⟨b,off+j,none⟩) hb).trans hc,hI.below h,h1,h2,h3⟩
theorem gu.mono {n m:Nat} (h:n≤m) {W:World} {a:Option Addr} {ss:List (List Int)} (hs:gu n W a ss):gu m W a ss:=fun j hj=>by
 obtain ⟨b,off,aj,cj,e,hb,hc,hI,h1,h2,h3⟩:=hs j hj;exact ⟨b,off,aj,cj,e,by omega,hc,hI.mono h,h1,h2,h3⟩
theorem gu.at {n:Nat} {W:World} {a:Option Addr} {ss:List (List Int)} (hs:gu n W a ss) (h:0 < ss.length) :
 ∃ b off,a = some ⟨b,off,none⟩∧b < n∧∀ j,j < ss.length→∃ aj cj,W.cell? ⟨b,off+j,none⟩ = some (.slice aj (ss[j]?.getD []).length cj)∧Ints n W aj (ss[j]?.getD [])∧(ss[j]?.getD []).length≤cj∧cj≤maxLen∧(aj = none→cj = 0):=by
 obtain ⟨b,off,_,_,rfl,hb,_⟩:=hs 0 h;refine ⟨b,off,rfl,hb,fun j hj=>?_⟩;obtain ⟨b',off',aj,cj,e,_,hc,hr⟩:=hs j hj;cases e;exact ⟨aj,cj,hc,hr⟩
theorem gu.nil (n:Nat) (W:World) (a:Option Addr):gu n W a []:=fun j hj=>by simp at hj
def Tm.firstErr:List (List Int)→Int
 | []=>0
 | t :: l=>if Tm.err t = 0 then Tm.firstErr l else Tm.err t
def Tm.dO (ss:List (List Int)):Int:=if ss.length = 8 then Tm.firstErr ss else 1
theorem Tm.rQ {ss:List (List Int)} {k:Nat} (hk:k < ss.length) (he:Tm.err (ss[k]?.getD []) = 0):Tm.firstErr (ss.drop k) = Tm.firstErr (ss.drop (k+1)):=by
 rw [List.drop_eq_getElem_cons hk,Tm.firstErr];simp only [hk,List.getElem?_eq_getElem,Option.getD_some] at he;rw [if_pos he]
theorem Tm.rT {ss:List (List Int)} {k:Nat} (hk:k < ss.length) (he:Tm.err (ss[k]?.getD [])≠0):Tm.firstErr (ss.drop k) = Tm.err (ss[k]?.getD []):=by
 rw [List.drop_eq_getElem_cons hk,Tm.firstErr];simp only [hk,List.getElem?_eq_getElem,Option.getD_some] at he ⊢;rw [if_neg he]
theorem Tm.jS {ss:List (List Int)} (h:Tm.firstErr ss = 0):∀ k,k < ss.length→Tm.err (ss[k]?.getD []) = 0:=by
 induction ss with
 | nil=>intro k hk;simp at hk
 | cons t l ih =>
  intro k hk;unfold Tm.firstErr at h;by_cases he:Tm.err t = 0
  ·rw [if_pos he] at h
   cases k with
   | zero=>simpa using he
   | succ k=>simpa using ih h k (by simpa using hk)
  ·rw [if_neg he] at h;exact absurd h he
theorem IC (len:Nat) (a:Option Addr) (cap:Nat) (w:World) (hl:len≠8):Calls Tryz.prog 102 #[.slice a len cap] w fun e w'=>e = .returned (.int .i64 1)∧Below w.heap.size w w':=by
 have h1:((len:Int) != 8) = true:=by simp;omega
 go_enter Tryz.func102,Tryz.ntmps102;go_wp2;go_ret;exact ⟨rfl,Below.refl _ _⟩
theorem Es (ss:List (List Int)) (hl:ss.length = 8) (a:Option Addr) (cap:Nat) (w:World) (hS:gu w.heap.size w a ss) :
 Calls Tryz.prog 102 #[.slice a 8 cap] w fun e w'=>e = .returned (.int .i64 (Tm.firstErr ss))∧Below w.heap.size w w':=by
 obtain ⟨b,off,rfl,hb,hc⟩:=hS.at (by omega);have Hc:=hid hc;have Hl:=hid hl;clear hc hS hl;go_enter Tryz.func102,Tryz.ntmps102;go_wp2;go_loopw [11] (fun i wr=>∃ k:Nat,k≤8∧i = .int .i64 (k:Int)∧Hid (Tm.firstErr ss = Tm.firstErr (ss.drop k))∧Below w.heap.size w wr) (fun i _=>8 - (intOf i).toNat)
 case atStart=>exact ⟨0,Nat.zero_le _,rfl,rfl,Below.refl _ _⟩
 case round =>
  obtain ⟨k,hk,rfl,hf,hB⟩:=hrel;by_cases hlt:k < 8
  ·have hlt':(k:Int) < 8:=by omega
   obtain ⟨aj,cj,hcj,hIj,_⟩:=Hc.out k (by rw [Hl.out];exact hlt);have afl:=(hB.cell (p:=⟨b,off+k,none⟩) hb).trans hcj;have hC:=dZ (ss[k]?.getD []) aj cj wr ((hIj.below hB).mono hB.size);have hst:=hid (Tm.rQ (ss:=ss) (k:=k) (by rw [Hl.out];exact hlt));have hsp:=hid (Tm.rT (ss:=ss) (k:=k) (by rw [Hl.out];exact hlt));clear hcj hIj;generalize ss[k]?.getD [] = t at *;by_cases he:Tm.err t = 0
   ·have hst':=hid (hf.out.trans (hst.out he))
    rw [he] at hC;clear hst hsp he hf;go_wp2_with (go_at_call 49;refine hC.mono ?_;clear hC;rintro e w1 ⟨rfl,hB1⟩)
    go_roundw
    case rel=>exact ⟨k+1,by omega,by go_num,hst'.out,hB.trans (hB1.mono hB.size)⟩
    case measure=>simp [intOf];omega
   ·have Yy:=hid (hf.out.trans (hsp.out he))
    have hne:(Tm.err t != 0) = true:=by simp [he]
    clear hst hsp he hf;generalize Tm.err t = q at *;go_wp2_with (go_at_call 49;refine hC.mono ?_;clear hC;rintro e w1 ⟨rfl,hB1⟩)
    go_ret;exact ⟨by rw [Yy.out];rfl,hB.trans (hB1.mono hB.size)⟩
  ·obtain rfl:k = 8:=by omega
   have h0:Hid (Tm.firstErr ss = 0):=by
    show _ = _;rw [hf.out,← Hl.out,List.drop_length];rfl
   clear hf;go_wp2;go_ret;exact ⟨by rw [h0.out];rfl,hB⟩
theorem IE (ss:List (List Int)) (a:Option Addr) (cap:Nat) (w:World) (hS:gu w.heap.size w a ss) :
 Calls Tryz.prog 102 #[.slice a ss.length cap] w fun e w'=>e = .returned (.int .i64 (Tm.dO ss))∧Below w.heap.size w w':=by
 unfold Tm.dO;by_cases hl:ss.length = 8
 ·rw [if_pos hl,hl];exact Es ss hl a cap w hS
 ·rw [if_neg hl];exact IC _ a cap w hl
def Tm.piece (ss:List (List Int)) (s:Int):List Int:=if s < 0 then ss[(-1 - s).toNat]?.getD [] else [s]
def Tm.applied (ss:List (List Int)) (t:List Int):List Int:=t.flatMap (Tm.piece ss)
theorem Tm.oZ (ss:List (List Int)) {t:List Int} {k:Nat} (h:k < t.length):Tm.applied ss (t.take (k+1)) = Tm.applied ss (t.take k)++Tm.piece ss (t[k]?.getD 0):=by
 rw [j3 h];simp [Tm.applied,List.flatMap_append]
def ow (ss:List (List Int)):Prop:=∀ j,j < ss.length→(ss[j]?.getD []).length≤30
theorem ow.Tt {ss:List (List Int)} (h:Tm.firstErr ss = 0):ow ss:=fun j hj=>Tm.aI (Tm.jS h j hj)
theorem ow.any {ss:List (List Int)} (h:ow ss) (j:Nat):(ss[j]?.getD []).length≤30:=by
 by_cases hj:j < ss.length
 ·exact h j hj
 ·rw [List.getElem?_eq_none (by omega)];simp
theorem Tm.zt {ss:List (List Int)} (h:ow ss) (s:Int):(Tm.piece ss s).length≤30:=by
 unfold Tm.piece;by_cases hs:s < 0
 ·rw [if_pos hs];exact h.any _
 ·rw [if_neg hs];simp
theorem Tm.jy {ss:List (List Int)} (h:ow ss) (t:List Int):(Tm.applied ss t).length≤30 * t.length:=by
 induction t with
 | nil=>simp [Tm.applied]
 | cons s l ih =>
  have:=Tm.zt h s
  simp only [Tm.applied,List.flatMap_cons,List.length_append,List.length_cons] at ih ⊢;omega
theorem Ke (ss:List (List Int)) (hl:ss.length = 8) (a:Option Addr) (cap Bs:Nat) (s:Int) (h8:-8≤s) (w:World) (hB:w.cell? ⟨Bs,0,none⟩ = some (.slice a 8 cap)) (hS:gu w.heap.size w a ss) :
 Calls Tryz.prog 125 #[.int .i64 s,.pointer (some ⟨Bs,0,none⟩)] w fun e w'=>∃ b c,e = .returned (.slice b (Tm.piece ss s).length c)∧Ints w'.heap.size w' b (Tm.piece ss s)∧(b = none→(Tm.piece ss s).length = 0∧c = 0)∧Below w.heap.size w w':=by
 by_cases hs:s < 0
 ·obtain ⟨j,rfl⟩:∃ j:Nat,s = -1 - (j:Int):=⟨(-1 - s).toNat,by omega⟩
  obtain ⟨b,off,rfl,hb,hc⟩:=hS.at (by omega);obtain ⟨aj,cj,hcj,hIj,h1,h2,h3⟩:=hc j (by omega);have hpc:Tm.piece ss (-1 - (j:Int)) = ss[j]?.getD []:=by
   unfold Tm.piece;rw [if_pos hs];congr 2;omega
  rw [hpc];have Vt:(j:Int) < 8:=by omega
  have H3:Hid (aj = none→(ss[j]?.getD []).length = 0∧cj = 0):=fun e=>⟨by have:=h3 e;omega,h3 e⟩
  clear hpc hc hS h3 h1 h2;generalize ss[j]?.getD [] = t at *;have hsub:(-1:Int) - (-1 - (j:Int)) = (j:Int):=by omega
  go_enter Tryz.func125,Tryz.ntmps125;go_wp2;go_ret;exact ⟨_,_,rfl,hIj,H3.out,Below.refl _ _⟩
 ·have hpc:Tm.piece ss s = [s]:=by simp [Tm.piece,hs]
  have h:=fH w [s] _ rfl;simp only [List.map_cons,List.map_nil] at h;have Hp:=hid hpc;clear hpc hS;generalize Tm.piece ss s = pc at *;go_enter Tryz.func125,Tryz.ntmps125;go_wp2;go_ret;exact ⟨some ⟨w.heap.size,0,none⟩,1,by rw [Hp.out];rfl,by rw [Hp.out];simpa using h,(fun e=>by cases e),(Below.refl _ _).alloc (Nat.le_refl _) _⟩
theorem FJ (ss:List (List Int)) (hl:ss.length = 8) (hsh:ow ss) (a:Option Addr) (cap Bs:Nat) (t:List Int) (at':Option Addr) (ct:Nat) (ht:t.length≤30) (h8:∀ k,k < t.length→-8≤t[k]?.getD 0) (w:World)
 (OH:Bs < w.heap.size) (hB:w.cell? ⟨Bs,0,none⟩ = some (.slice a 8 cap)) (hS:gu w.heap.size w a ss) (hT:Ints w.heap.size w at' t) :
 Calls Tryz.prog 109 #[.slice at' t.length ct,.func (.func 125) #[] #[.pointer (some ⟨Bs,0,none⟩)]] w fun e w'=>∃ v,e = .returned v∧New w.heap.size w' v (Tm.applied ss t)∧Below w.heap.size w w':=by
 have hlen:(t.length:Int)≤30:=by omega
 have HB:=hid hB;have HS:=hid hS;have HT:=hid hT;have H8:=hid h8;have Hl:=hid hl;clear hB hS hT h8 hl;go_enter Tryz.func109,Tryz.ntmps109;go_wp2;go_loopw [5,10] (fun v i wr=>∃ k:Nat,k≤t.length∧i = .int .i64 (k:Int)∧New w.heap.size wr v (Tm.applied ss (t.take k))∧Below w.heap.size w wr) (fun _ i _=>t.length - (intOf i).toNat)
 case atStart=>exact ⟨0,Nat.zero_le _,rfl,New.nil _ _,Below.refl _ _⟩
 case round =>
  obtain ⟨k,hk,rfl,hN,hBr⟩:=hrel;by_cases hlt:k < t.length
  ·have hlt':(k:Int) < (t.length:Int):=by omega
   obtain ⟨b,off,rfl,hb,hc⟩:=HT.out.at (by omega);have hck:=(hBr.cell (p:=⟨b,off+k,none⟩) hb).trans (hc k hlt);have hf:=Ke ss Hl.out a cap Bs (t[k]?.getD 0) (H8.out k hlt) wr ((hBr.cell (p:=⟨Bs,0,none⟩) OH).trans HB.out) ((HS.out.below hBr).mono hBr.size);have hsn:=hid (Tm.oZ ss hlt);have hle:=Tm.jy hsh (t.take k);rw [List.length_take] at hle;have hpl:=Tm.zt hsh (t[k]?.getD 0);clear hc;generalize Tm.piece ss (t[k]?.getD 0) = pc at *;generalize t[k]?.getD 0 = s at *;generalize Tm.applied ss (t.take k) = xs at *;obtain ⟨a0,c0,rfl,_⟩:=New.ints hN;go_wp2_with (first
    | (go_at_call 125;refine hf.mono ?_;clear hf;rintro e w1 ⟨b1,c1,rfl,hI1,hn1,hB1⟩;have hN1:=New.below hN hB1;have hB2:=hBr.trans (hB1.mono hBr.size))
    | (at_builtin;go_loud (refine aK _ rfl _ _ rfl w.heap.size _ xs rfl hN1 b1 pc c1 rfl hn1 hI1 (by omega) hB2.size ?_);intro v' w2 eH hB3;obtain ⟨a2,c2,rfl,_⟩:=New.ints eH))
   go_roundw
   case rel=>exact ⟨k+1,by omega,by go_num,by rw [hsn.out];simpa using eH,hB2.trans hB3⟩
   case measure=>simp [intOf];omega
  ·obtain rfl:k = t.length:=by omega
   rw [List.take_length] at hN;obtain ⟨a2,c2,rfl,_⟩:=New.ints hN;go_wp2;go_ret;exact ⟨_,rfl,hN,hBr⟩
theorem Mh (ss:List (List Int)) (hl:ss.length = 8) (hsh:ow ss) (a:Option Addr) (cap:Nat) (t:List Int) (at':Option Addr) (ct:Nat) (ht:t.length≤30) (h8:∀ k,k < t.length→-8≤t[k]?.getD 0) (w:World)
 (hS:gu w.heap.size w a ss) (hT:Ints w.heap.size w at' t) :
 Calls Tryz.prog 103 #[.slice a 8 cap,.slice at' t.length ct] w fun e w'=>∃ v,e = .returned (.tuple #[v,.int .i64 (if 30 < (Tm.applied ss t).length then 2 else 0)])∧New w.heap.size w' v (if 30 < (Tm.applied ss t).length then [] else Tm.applied ss t)∧Below w.heap.size w w':=by
 have hmf:∀ (fn:Fn) (first cap:Array Value) (w:World),(Instr.makeFunc fn first cap).run Tryz.prog w = .ok (.func fn first cap) w:=fun _ _ _ _=>rfl
 have bS:=Boxed.new w 49 (.slice a 8 cap);have hB:Below w.heap.size w (w.alloc (.cells #[.slice a 8 cap] 49)):=(Below.refl _ _).alloc (Nat.le_refl _) _;have hC:=FJ ss hl hsh a cap w.heap.size t at' ct ht h8 (w.alloc (.cells #[.slice a 8 cap] 49)) (by simp) bS.cell ((hS.below hB).mono hB.size) ((hT.below hB).mono hB.size);have hle:=Tm.jy hsh t;have Xx:=hid hle;clear hle hS hT h8 bS;generalize Tm.applied ss t = xs at *;have hx:(xs.length:Int)≤1000:=by have:=Xx.out;omega
 by_cases hbig:30 < xs.length
 ·have hbig':(30:Int) < (xs.length:Int):=by omega
  rw [if_pos hbig,if_pos hbig];clear hbig;go_enter Tryz.func103,Tryz.ntmps103;go_wp2_with (go_at_call 109;refine hC.mono ?_;clear hC;rintro e w1 ⟨v,rfl,hN,hB1⟩;obtain ⟨a1,c1,rfl,_⟩:=New.ints hN)
  go_ret2
  exact ⟨_,rfl,New.nil _ _,hB.trans (hB1.mono hB.size)⟩
 ·have hbig':(xs.length:Int)≤30:=by omega
  rw [if_neg hbig,if_neg hbig];clear hbig;go_enter Tryz.func103,Tryz.ntmps103;go_wp2_with (go_at_call 109;refine hC.mono ?_;clear hC;rintro e w1 ⟨v,rfl,hN,hB1⟩;obtain ⟨a1,c1,rfl,_⟩:=New.ints hN)
  go_ret2
  exact ⟨_,rfl,hN.mono hB.size,hB.trans (hB1.mono hB.size)⟩
def Tm.bf (ss:List (List Int)) (t:List Int):Int:=if Tm.dO ss = 0 then (if Tm.err t = 0 then (if 30 < (Tm.applied ss t).length then 2 else 0) else Tm.err t) else Tm.dO ss
def Tm.bJ (ss:List (List Int)) (t:List Int):List Int:=if Tm.bf ss t = 0 then Tm.applied ss t else []
theorem Tm.kv {ss:List (List Int)} (h:Tm.dO ss = 0):ss.length = 8∧Tm.firstErr ss = 0:=by
 unfold Tm.dO at h;by_cases hl:ss.length = 8
 ·rw [if_pos hl] at h;exact ⟨hl,h⟩
 ·rw [if_neg hl] at h;omega
theorem Tm.lH {t:List Int} (h:Tm.err t = 0):∀ k,k < t.length→-8≤t[k]?.getD 0:=fun _ hk=>Tm.iK (Tm.lq (Tm.dH h) hk)
theorem Tm.J3 {ss:List (List Int)} {t:List Int} (hs:Tm.dO ss = 0) (ht:Tm.err t = 0) :
 Tm.bf ss t = (if 30 < (Tm.applied ss t).length then 2 else 0)∧Tm.bJ ss t = (if 30 < (Tm.applied ss t).length then [] else Tm.applied ss t):=by
 have h1:Tm.bf ss t = (if 30 < (Tm.applied ss t).length then 2 else 0):=by unfold Tm.bf;rw [if_pos hs,if_pos ht]
 refine ⟨h1,?_⟩;unfold Tm.bJ;rw [h1];by_cases h:30 < (Tm.applied ss t).length <;> simp [h]
theorem Tm.VL {ss:List (List Int)} {t:List Int} (hs:Tm.dO ss = 0) (ht:Tm.err t≠0):Tm.bf ss t = Tm.err t∧Tm.bJ ss t = []:=by
 have h1:Tm.bf ss t = Tm.err t:=by unfold Tm.bf;rw [if_pos hs,if_neg ht]
 exact ⟨h1,by unfold Tm.bJ;rw [h1,if_neg ht]⟩
theorem Tm.VM {ss:List (List Int)} {t:List Int} (hs:Tm.dO ss≠0):Tm.bf ss t = Tm.dO ss∧Tm.bJ ss t = []:=by
 have h1:Tm.bf ss t = Tm.dO ss:=by unfold Tm.bf;rw [if_neg hs]
 exact ⟨h1,by unfold Tm.bJ;rw [h1,if_neg hs]⟩
theorem BK (ss:List (List Int)) (t:List Int) (a at':Option Addr) (cap ct:Nat) (w:World) (hS:gu w.heap.size w a ss) (hT:Ints w.heap.size w at' t) :
 Calls Tryz.prog 74 #[.slice a ss.length cap,.slice at' t.length ct] w fun e w'=>∃ v,e = .returned (.tuple #[v,.int .i64 (Tm.bf ss t)])∧New w.heap.size w' v (Tm.bJ ss t)∧Below w.heap.size w w':=by
 have jw:=IE ss a cap w hS;by_cases hs:Tm.dO ss = 0
 ·have hC2:∀ W,Below w.heap.size w W→Calls Tryz.prog 49 #[.slice at' t.length ct] W fun e w'=>e = .returned (.int .i64 (Tm.err t))∧Below W.heap.size W w':=fun W hW=>dZ t at' ct W ((hT.below hW).mono hW.size)
  rw [hs] at jw;by_cases ht:Tm.err t = 0
  ·obtain ⟨e1,e2⟩:=Tm.J3 hs ht
   obtain ⟨hl,hf⟩:=Tm.kv hs;have hb:∀ W,Below w.heap.size w W→Calls Tryz.prog 103 #[.slice a 8 cap,.slice at' t.length ct] W fun e w'=>∃ v,e = .returned (.tuple #[v,.int .i64 (Tm.bf ss t)])∧New W.heap.size w' v (Tm.bJ ss t)∧Below W.heap.size W w':=fun W hW=>by
    rw [e1,e2];exact Mh ss hl (ow.Tt hf) a cap t at' ct (Tm.aI ht) (Tm.lH ht) W ((hS.below hW).mono hW.size) ((hT.below hW).mono hW.size)
   rw [hl] at jw ⊢;rw [ht] at hC2;have Ru:=hid hC2;have Hb:=hid hb;clear hC2 hb hS hT hl hf e1 e2 hs ht;generalize Tm.bf ss t = q at *;generalize Tm.bJ ss t = xs at *;go_enter Tryz.func74,Tryz.ntmps74;go_wp2_with (first
    | (go_at_call 102;refine jw.mono ?_;clear jw;rintro e w1 ⟨rfl,hB1⟩)
    | (go_at_call 49;refine (Ru.out _ hB1).mono ?_;rintro e w2 ⟨rfl,hB2⟩;have hB3:=hB1.trans (hB2.mono hB1.size))
    | (go_at_call 103;refine (Hb.out _ hB3).mono ?_;rintro e w3 ⟨v,rfl,hN,hB4⟩;obtain ⟨a1,c1,rfl,_⟩:=New.ints hN))
   go_ret2
   exact ⟨_,rfl,hN.mono hB3.size,hB3.trans (hB4.mono hB3.size)⟩
  ·obtain ⟨e1,e2⟩:=Tm.VL hs ht
   rw [e1,e2];have Ru:=hid hC2;have hne:(Tm.err t != 0) = true:=by simp [ht]
   clear hC2 hS hT e1 e2 hs ht;generalize Tm.err t = q at *;go_enter Tryz.func74,Tryz.ntmps74;go_wp2_with (first
    | (go_at_call 102;refine jw.mono ?_;clear jw;rintro e w1 ⟨rfl,hB1⟩)
    | (go_at_call 49;refine (Ru.out _ hB1).mono ?_;rintro e w2 ⟨rfl,hB2⟩;have hB3:=hB1.trans (hB2.mono hB1.size)))
   go_ret2
   exact ⟨_,rfl,New.nil _ _,hB3⟩
 ·obtain ⟨e1,e2⟩:=Tm.VM (t:=t) hs
  rw [e1,e2];have hne:(Tm.dO ss != 0) = true:=by simp [hs]
  clear hS hT e1 e2 hs;generalize Tm.dO ss = q at *;go_enter Tryz.func74,Tryz.ntmps74;go_wp2_with (go_at_call 102;refine jw.mono ?_;clear jw;rintro e w1 ⟨rfl,hB1⟩)
  go_ret2
  exact ⟨_,rfl,New.nil _ _,hB1⟩
theorem Kg (ss:List (List Int)) (hl:ss.length = 8) (hsh:ow ss) (a:Option Addr) (cap:Nat) (t:List Int) (at':Option Addr) (ct:Nat) (ht:t.length≤30) (h8:∀ k,k < t.length→-8≤t[k]?.getD 0) (w:World)
 (hS:gu w.heap.size w a ss) (hT:Ints w.heap.size w at' t) :
 Calls Tryz.prog 114 #[.slice a 8 cap,.slice at' t.length ct] w fun e w'=>∃ v,e = .returned v∧New w.heap.size w' v (Tm.applied ss t)∧Below w.heap.size w w':=by
 have hlen:(t.length:Int)≤30:=by omega
 obtain ⟨bs,os,rfl,hbs,hcs⟩:=hS.at (by omega);have Hcs:=hid hcs;have HT:=hid hT;have H8:=hid h8;have Hl:=hid hl;clear hcs hS hT h8 hl;go_enter Tryz.func114,Tryz.ntmps114;go_wp2;go_loopw [5,6] (fun v i wr=>∃ k:Nat,k≤t.length∧i = .int .i64 (k:Int)∧New w.heap.size wr v (Tm.applied ss (t.take k))∧Below w.heap.size w wr) (fun _ i _=>t.length - (intOf i).toNat)
 case atStart=>exact ⟨0,Nat.zero_le _,rfl,New.nil _ _,Below.refl _ _⟩
 case round =>
  obtain ⟨k,hk,rfl,hN,hBr⟩:=hrel;by_cases hlt:k < t.length
  ·have hlt':(k:Int) < (t.length:Int):=by omega
   obtain ⟨b,off,rfl,hb,hc⟩:=HT.out.at (by omega);have hck:=(hBr.cell (p:=⟨b,off+k,none⟩) hb).trans (hc k hlt);have hsn:=hid (Tm.oZ ss hlt);have hle:=Tm.jy hsh (t.take k);rw [List.length_take] at hle;have hpl:=Tm.zt hsh (t[k]?.getD 0);have Rt:=H8.out k hlt;clear hc;obtain ⟨a0,c0,rfl,_⟩:=New.ints hN;by_cases hneg:t[k]?.getD 0 < 0
   ·obtain ⟨j,hj⟩:∃ j:Nat,t[k]?.getD 0 = -1 - (j:Int):=⟨(-1 - (t[k]?.getD 0)).toNat,by omega⟩
    have Vt:(j:Int) < 8:=by omega
    obtain ⟨aj,cj,Tu,Tv,h1,h2,h3⟩:=Hcs.out j (by rw [Hl.out];omega);have hcj:=(hBr.cell (p:=⟨bs,os+j,none⟩) hbs).trans Tu;have hIj:=(Tv.below hBr).mono hBr.size;have hpc:Tm.piece ss (t[k]?.getD 0) = ss[j]?.getD []:=by
     rw [hj];unfold Tm.piece;rw [if_pos (by omega)];congr 2;omega
    rw [hpc] at hsn hpl;rw [hj] at hck;have H3:Hid (aj = none→(ss[j]?.getD []).length = 0∧cj = 0):=fun e=>⟨by have:=h3 e;omega,h3 e⟩
    clear Tu Tv hpc hj hneg Rt h3 h1 h2;generalize ss[j]?.getD [] = pc at *;generalize Tm.applied ss (t.take k) = xs at *;have hn1:(-1 - (j:Int)) < 0:=by omega
    have hn2:-(-1 - (j:Int)) - 1 = (j:Int):=by omega
    go_wp2_with (at_builtin;go_loud (refine aK _ rfl _ _ rfl w.heap.size _ xs rfl hN aj pc cj rfl H3.out hIj (by omega) hBr.size ?_);intro v' w2 eH hB3;obtain ⟨a2,c2,rfl,_⟩:=New.ints eH)
    go_roundw
    case rel=>exact ⟨k+1,by omega,by go_num,by rw [hsn.out];simpa using eH,hBr.trans hB3⟩
    case measure=>simp [intOf];omega
   ·have hpc:Tm.piece ss (t[k]?.getD 0) = [t[k]?.getD 0]:=by unfold Tm.piece;rw [if_neg hneg]
    rw [hpc] at hsn;clear hpc hpl Rt;generalize t[k]?.getD 0 = s at *;generalize Tm.applied ss (t.take k) = xs at *;have h1:=fH wr [s] _ rfl;simp only [List.map_cons,List.map_nil] at h1;have hA:Below wr.heap.size wr (wr.alloc (.cells #[.int .i64 s] 3)):=(Below.refl _ _).alloc (Nat.le_refl _) _;have hNA:=New.below hN hA;have hBA:=hBr.trans (hA.mono hBr.size);go_wp2_with (at_builtin;go_loud (refine aK _ rfl _ _ rfl w.heap.size _ xs rfl hNA (some ⟨wr.heap.size,0,none⟩) [s] 1 rfl (fun e=>by cases e) (by simpa using h1) (by simp;omega) hBA.size ?_);intro v' w2 eH hB3;obtain ⟨a2,c2,rfl,_⟩:=New.ints eH)
    go_roundw
    case rel=>exact ⟨k+1,by omega,by go_num,by rw [hsn.out];simpa using eH,hBA.trans hB3⟩
    case measure=>simp [intOf];omega
  ·obtain rfl:k = t.length:=by omega
   rw [List.take_length] at hN;obtain ⟨a2,c2,rfl,_⟩:=New.ints hN;go_wp2;go_ret;exact ⟨_,rfl,hN,hBr⟩
theorem mK (xs ys:List Int) (a b:Option Addr) (ca cb n:Nat) (w:World) (hX:Ints n w a xs) (hY:Ints n w b ys) (hm:xs.length≤maxLen) :
 Calls Tryz.prog 25 #[.slice a xs.length ca,.slice b ys.length cb] w fun e w'=>e = .returned (.bool (dK xs ys))∧∃ m,w' = w.drewN m:=by
 unfold maxLen at hm;by_cases hl:xs.length = ys.length
 ·have hne:((xs.length:Int) != (ys.length:Int)) = false:=by simp [hl]
  have Hl:Hid (xs.length = ys.length):=hl;clear hl;go_enter Tryz.func25,Tryz.ntmps25;go_wp2;go_loopw [5] (fun i wr=>∃ k d:Nat,k≤xs.length∧i = .int .i64 (k:Int)∧Hid (xs.take k = ys.take k)∧wr = w.drewN d) (fun i _=>xs.length - (intOf i).toNat)
  case atStart=>exact ⟨0,0,Nat.zero_le _,rfl,by simp [Hid],rfl⟩
  case round =>
   obtain ⟨k,d,hk,rfl,hsame,rfl⟩:=hrel;by_cases hlt:k < xs.length
   ·have hlt':(k:Int) < (xs.length:Int):=by omega
    have Ll:k < ys.length:=by have:=Hl.out;omega
    have X0:(k:Int) < (ys.length:Int):=by omega
    obtain ⟨b1,X3,rfl,hb1,hc1⟩:=hX.at (by omega);obtain ⟨b2,RG,rfl,hb2,hc2⟩:=hY.at (by omega);have hx:=hc1 k hlt;have hy:=hc2 k Ll;have hst:=hid (@Bz xs ys k hlt Ll hsame.out);have hno:=hid (@Dx xs ys k);clear hc1 hc2 hX hY Ll;generalize xs[k]?.getD 0 = s at *;generalize ys[k]?.getD 0 = u at *;by_cases he:s = u
    ·have hn:(s != u) = false:=by simp [he]
     have He:Hid (s = u):=he;clear he hno;go_wp2;go_quiet (fail)
     go_wp2;go_roundw
     case rel=>exact ⟨k+1,_,by omega,by go_num,hst.out He.out,rfl⟩
     case measure=>simp [intOf];omega
    ·have hn:(s != u) = true:=by simp [he]
     have hf:=hid (hno.out he);clear he hno hst;go_wp2;go_quiet (fail)
     go_wp2;go_ret;exact ⟨by rw [hf.out];rfl,_,by rw [World.drewN_drewN]⟩
   ·obtain rfl:k = xs.length:=by omega
    have hy:=hid (Dz hsame.out Hl.out);clear hX hY;go_wp2;go_ret;exact ⟨by rw [hy.out];rfl,_,rfl⟩
 ·have hne:((xs.length:Int) != (ys.length:Int)) = true:=by simp;omega
  rw [Dy hl];clear hl hX hY;go_enter Tryz.func25,Tryz.ntmps25;go_wp2;go_ret;exact ⟨rfl,0,rfl⟩
theorem Tryz.Yz:(Tryz.prog.info? 35).map (fun i=>(i.zero,i.size,i.bytes)) = some (some (.slice none 0 0),1,24):=by kernel_rfl
def dG (base:Nat) (W:World) (v:Value) (ss:List (List Int)):Prop :=
 ∃ us:List Value,W.ownsRow base 35 1 v ss.length us∧∀ j,j < ss.length→∃ u,us[j]? = some u∧New base W u (ss[j]?.getD [])
theorem dG.nil (base:Nat) (W:World):dG base W (.slice none 0 0) []:=⟨[],World.ownsRow_nil _ _ _ _,fun j hj=>by simp at hj⟩
theorem New.apart {base:Nat} {W:World} {u v:Value} {t:List Int} {n:Nat} {us:List Value} (hu:New base W u t) (hv:W.ownsRow base 35 1 v n us):u.ownBlock = none∨u.ownBlock≠v.ownBlock:=by
 rcases hu.2 with ⟨rfl,_⟩ | ⟨g,cap,cur,rfl,_,hg,_⟩
 ·exact .inl rfl
 ·rcases hv.2 with ⟨rfl,_⟩ | ⟨g',cap',cur',rfl,_,hg',_⟩
  ·exact .inr (by simp [Value.ownBlock])
  ·refine .inr fun e=>?_
   have e':g = g':=by simpa [Value.ownBlock] using e
   subst e';rw [hg] at hg';simp at hg'
theorem dG.below {base:Nat} {W W':World} {v:Value} {ss:List (List Int)} (h:dG base W v ss) (hB:Below W.heap.size W W'):dG base W' v ss:=by
 obtain ⟨us,h1,h2⟩:=h;refine ⟨us,World.ownsRow.kept h1 (dx hB) (by cases h:v.ownBlock with | none=>exact .inl rfl | some k=>exact .inr (by simp)),fun j hj=>?_⟩;obtain ⟨u,hu,hN⟩:=h2 j hj;exact ⟨u,hu,hN.below hB⟩
theorem dG.mono {base base':Nat} {W:World} {v:Value} {ss:List (List Int)} (h:dG base W v ss) (hb:base'≤base):dG base' W v ss:=by
 obtain ⟨us,h1,h2⟩:=h;refine ⟨us,⟨h1.1,h1.2.elim .inl (fun ⟨g,cap,cur,e1,e2,e3⟩=>.inr ⟨g,cap,cur,e1,Nat.le_trans hb e2,e3⟩)⟩,fun j hj=>?_⟩;obtain ⟨u,hu,hN⟩:=h2 j hj;exact ⟨u,hu,hN.mono hb⟩
theorem dG.subs {base:Nat} {W:World} {v:Value} {ss:List (List Int)} (h:dG base W v ss):∃ a cap,v = .slice a ss.length cap∧gu W.heap.size W a ss∧ss.length≤cap∧cap≤maxLen∧(a = none→cap = 0):=by
 obtain ⟨us,h1,h2⟩:=h;rcases h1.2 with ⟨rfl,hn⟩ | ⟨g,cap,cur,rfl,hb,hg,e1,e2,e3,e4⟩
 ·exact ⟨none,0,by rw [hn],fun j hj=>by omega,by omega,by omega,fun _=>rfl⟩
 ·refine ⟨_,_,rfl,fun j hj=>?_,e1,e2,fun e=>by cases e⟩
  obtain ⟨u,hu,hN⟩:=h2 j hj;have h5:=World.ownsRow.cellAt h1 j (by omega);obtain ⟨aj,cj,rfl,hI,q1,q2⟩:=New.ints hN;refine ⟨g,0,aj,cj,rfl,(Array.getElem?_eq_some_iff.1 hg).1,?_,hI,q1,q2,fun e=>?_⟩
  ·rw [Nat.zero_add,h5,hu]
  ·subst e
   rcases hN.2 with ⟨e,_⟩ | ⟨_,_,_,e,_⟩
   ·simp only [Value.slice.injEq] at e;exact e.2.2
   ·simp at e
theorem kG {ops:Array Oper} {rest:List Oper} {o:Oper} {a:Act} {Q:Exit→Act→World→Prop} (w:World) (hgd:o.guard = none) (s x:Operand)
 (ho:o.op = .call { callee:=.builtin .append,args:=#[s,x],argTypes:=#[49,49] }) (base:Nat) (v:Value) (ss:List (List Int)) (hs:a.eval s = v) (hN:dG base w v ss)
 (u:Value) (t:List Int) (B:Nat) (hx:a.eval x = .slice (some ⟨B,0,none⟩) 1 1) (hB:w.cell? ⟨B,0,none⟩ = some u) (hu:New base w u t) (hlen:ss.length≤1000000) (hbase:base≤w.heap.size)
 (h:∀ v' w',dG base w' v' (ss++[t])→Below base w w'→wpList Tryz.prog ops Q rest (a.put o.dst v') w'):wpList Tryz.prog ops Q (o :: rest) a w:=by
 obtain ⟨i0,hi,hz0,hz1,hz2⟩:=info_parts Tryz.Yz;obtain ⟨us,h1,h2⟩:=hN;have zi:us.length = ss.length:=by have:=h1.1;omega
 refine wpList_append_own w hgd s x 49 ho base 35 i0 (.slice none 0 0) 1 24 Tryz.underlying49 hi hz0 hz1 hz2 rfl (by decide) v ss.length us hs h1 ⟨B,0,none⟩ 1 1 [u] hx (by simp)
  (by intro j z hj
      match j,hj with
      | 0,hj=>simp at hj;subst hj;rw [Go.WideShapes.add_plain];simpa using hB)
  (by intro z hz;simp at hz;subst hz;obtain ⟨_,_,rfl,_⟩:=New.ints hu;rfl) (by unfold maxLen;omega) (by omega) hbase ?_
 intro v' w' hown hg _;have hkeep:∀ (u':Value) (t':List Int),New base w u' t'→New base w' u' t':=fun u' t' hN'=>World.ownsRow.kept hN' hg (New.apart hN' h1)
 refine h v' w' ⟨us++[u],by simpa using hown,fun j hj=>?_⟩ ((Below.refl base w).grown hg hbase (fun k e=>(World.ownsRow.lt h1 k e).1));by_cases hjl:j < ss.length
 ·obtain ⟨u',hu',hN'⟩:=h2 j hjl
  refine ⟨u',by rw [List.getElem?_append_left (by omega)];exact hu',?_⟩;rw [List.getElem?_append_left hjl];exact hkeep u' _ hN'
 ·have Eh:j = ss.length:=by simp at hj;omega
  subst Eh;refine ⟨u,by rw [List.getElem?_append_right (by omega),zi];simp,?_⟩;rw [List.getElem?_append_right (by omega)];simpa using hkeep u t hu
def o7 (xs ys:List (List Int)):Bool:=decide (xs = ys)
theorem Ql {xs ys:List (List Int)} (h:xs.length≠ys.length):o7 xs ys = false:=by
 simp only [o7,decide_eq_false_iff_not];rintro rfl;exact h rfl
theorem sH {zs:List (List Int)} {k:Nat} (h:k < zs.length):zs.take (k+1) = zs.take k++[zs[k]?.getD []]:=by
 rw [List.take_succ_eq_append_getElem h];simp [h]
theorem Mi {xs ys:List (List Int)} {k:Nat} (hx:k < xs.length) (hy:k < ys.length) (h:xs.take k = ys.take k) (he:dK (xs[k]?.getD []) (ys[k]?.getD []) = true):xs.take (k+1) = ys.take (k+1):=by
 simp only [dK,decide_eq_true_eq] at he;rw [sH hx,sH hy,h,he]
theorem Qm {xs ys:List (List Int)} {k:Nat} (he:dK (xs[k]?.getD []) (ys[k]?.getD []) = false):o7 xs ys = false:=by
 simp only [dK,decide_eq_false_iff_not] at he;simp only [o7,decide_eq_false_iff_not];rintro rfl;exact he rfl
theorem Qn {xs ys:List (List Int)} (h:xs.take xs.length = ys.take xs.length) (hl:xs.length = ys.length):o7 xs ys = true:=by
 simp only [o7,decide_eq_true_eq];rw [List.take_length,hl,List.take_length] at h;exact h
theorem IG (xs ys:List (List Int)) (a b:Option Addr) (ca cb:Nat) (w:World) (hX:gu w.heap.size w a xs) (hY:gu w.heap.size w b ys) (hm:xs.length≤1000) :
 Calls Tryz.prog 26 #[.slice a xs.length ca,.slice b ys.length cb] w fun e w'=>e = .returned (.bool (o7 xs ys))∧Below w.heap.size w w':=by
 by_cases hl:xs.length = ys.length
 ·have hne:((xs.length:Int) != (ys.length:Int)) = false:=by simp [hl]
  have hxm:(xs.length:Int)≤1000:=by omega
  have Hl:Hid (xs.length = ys.length):=hl;have HX:=hid hX;have HY:=hid hY;clear hl hX hY;go_enter Tryz.func26,Tryz.ntmps26;go_wp2;go_loopw [5] (fun i wr=>∃ k:Nat,k≤xs.length∧i = .int .i64 (k:Int)∧Hid (xs.take k = ys.take k)∧Below w.heap.size w wr) (fun i _=>xs.length - (intOf i).toNat)
  case atStart=>exact ⟨0,Nat.zero_le _,rfl,by simp [Hid],Below.refl _ _⟩
  case round =>
   obtain ⟨k,hk,rfl,hsame,hB⟩:=hrel;by_cases hlt:k < xs.length
   ·have hlt':(k:Int) < (xs.length:Int):=by omega
    have Ll:k < ys.length:=by have:=Hl.out;omega
    have X0:(k:Int) < (ys.length:Int):=by omega
    obtain ⟨b1,X3,rfl,hb1,hc1⟩:=(HX.out.below hB).at (by omega);obtain ⟨b2,RG,rfl,hb2,hc2⟩:=(HY.out.below hB).at (by omega);obtain ⟨ax,cx,hx,hIx,qx,qx2,_⟩:=hc1 k hlt;obtain ⟨ay,cy,hy,hIy,_⟩:=hc2 k Ll;have hst:=hid (@Mi xs ys k hlt Ll hsame.out);have hno:=hid (@Qm xs ys k);have hS:∀ n:Nat,Calls Tryz.prog 25 #[.slice ax (xs[k]?.getD []).length cx,.slice ay (ys[k]?.getD []).length cy] (wr.drewN n) fun e w'=>e = .returned (.bool (dK (xs[k]?.getD []) (ys[k]?.getD [])))∧∃ m,w' = (wr.drewN n).drewN m :=
     fun n=>mK _ _ ax ay cx cy w.heap.size (wr.drewN n) hIx hIy (by omega)
    have HS:=hid hS;clear hc1 hc2 Ll hIx hIy qx qx2 hS;generalize xs[k]?.getD [] = s at *;generalize ys[k]?.getD [] = u at *;cases hsb:dK s u with
    | true =>
     have hst':=hid (hst.out hsb);rw [hsb] at HS;clear hst hno hsb;go_wp2;go_quiet ((go_at_call 25;exact Calls.quiet_of (HS.out _)))
     go_wp2;go_roundw
     case rel=>exact ⟨k+1,by omega,by go_num,hst'.out,below_drewN hB _⟩
     case measure=>simp [intOf];omega
    | false =>
     have hf:=hid (hno.out hsb);rw [hsb] at HS;clear hst hno hsb;go_wp2;go_quiet ((go_at_call 25;exact Calls.quiet_of (HS.out _)))
     go_wp2;go_ret;exact ⟨by rw [hf.out];rfl,below_drewN hB _⟩
   ·obtain rfl:k = xs.length:=by omega
    have hy:=hid (Qn hsame.out Hl.out);go_wp2;go_ret;exact ⟨by rw [hy.out];rfl,hB⟩
 ·have hne:((xs.length:Int) != (ys.length:Int)) = true:=by simp;omega
  rw [Ql hl];clear hl hX hY;go_enter Tryz.func26,Tryz.ntmps26;go_wp2;go_ret;exact ⟨rfl,Below.refl _ _⟩
def Tm.gQ (k:Nat):List (List Int):=(List.range k).map fun i:Nat=>[-1 - (i:Int)]
theorem Tm.Et (k:Nat):Tm.gQ (k+1) = Tm.gQ k++[[-1 - (k:Int)]]:=by simp [Tm.gQ,List.range_succ]
theorem Tm.gy (k:Nat):(Tm.gQ k).length = k:=by simp [Tm.gQ]
theorem dG.alloc {base:Nat} {W:World} {v:Value} {ss:List (List Int)} (h:dG base W v ss) (o:Obj):dG base (W.alloc o) v ss:=h.below ((Below.refl _ _).alloc (Nat.le_refl _) _)
theorem New.alloc {base:Nat} {W:World} {v:Value} {zs:List Int} (h:New base W v zs) (o:Obj):New base (W.alloc o) v zs:=h.below ((Below.refl _ _).alloc (Nat.le_refl _) _)
theorem kP (W:World) (v:Value) (t:TypeId) (n:Nat) (hn:n = W.heap.size):(W.alloc (.cells #[v] t)).cell? ⟨n,0,none⟩ = some v:=by
 subst hn;rw [aM (World.alloc_heap_new W _)];rfl
theorem JU (w:World):Calls Tryz.prog 73 #[] w fun e w'=>∃ v,e = .returned v∧dG w.heap.size w' v (Tm.gQ 8)∧Below w.heap.size w w':=by
 go_enter Tryz.func73,Tryz.ntmps73;go_wp2;go_loopw [1,3] (fun v i wr=>∃ k:Nat,k≤8∧i = .int .i64 (k:Int)∧dG w.heap.size wr v (Tm.gQ k)∧Below w.heap.size w wr) (fun _ i _=>8 - (intOf i).toNat)
 case atStart=>exact ⟨0,Nat.zero_le _,rfl,dG.nil _ _,Below.refl _ _⟩
 case round =>
  obtain ⟨k,hk,rfl,hN,hB⟩:=hrel;by_cases hlt:k < 8
  ·have hlt':(k:Int) < 8:=by omega
   have hsn:=hid (Tm.Et k);have Hln:=hid (Tm.gy k);obtain ⟨a0,c0,rfl,_⟩:=dG.subs hN;have hu:=New.lit w.heap.size wr [-1 - (k:Int)] hB.size (by unfold maxLen;simp);simp only [List.map_cons,List.map_nil,List.length_cons,List.length_nil,Nat.zero_add] at hu;have hA:Below w.heap.size w (((wr.alloc (.cells #[.int .i64 (-1 - (k:Int))] 3)).alloc (.cells #[.slice (some ⟨wr.heap.size,0,none⟩) 1 1] 35))):=(hB.alloc hB.size _).alloc (by have:=hB.size;simp;omega) _;have eH:=(hN.alloc (.cells #[.int .i64 (-1 - (k:Int))] 3)).alloc (.cells #[.slice (some ⟨wr.heap.size,0,none⟩) 1 1] 35);have hu2:=hu.alloc (.cells #[.slice (some ⟨wr.heap.size,0,none⟩) 1 1] 35);have hcn:=kP (wr.alloc (.cells #[.int .i64 (-1 - (k:Int))] 3)) (.slice (some ⟨wr.heap.size,0,none⟩) 1 1) 35 (wr.heap.size+1) (by simp);have YA:=hid eH;have Hu2:=hid hu2;have Sr:=hid hcn;clear hu eH hu2 hcn;go_wp2_with (at_builtin;go_loud (refine kG _ rfl _ _ rfl w.heap.size _ (Tm.gQ k) rfl YA.out (.slice (some ⟨wr.heap.size,0,none⟩) 1 1) [-1 - (k:Int)] (wr.heap.size+1) rfl Sr.out Hu2.out (by rw [Hln.out];omega) hA.size ?_);intro v' w2 iD hB3;obtain ⟨a2,c2,rfl,_⟩:=dG.subs iD)
   go_roundw
   case rel=>exact ⟨k+1,by omega,by go_num,by rw [hsn.out];simpa using iD,hA.trans hB3⟩
   case measure=>simp [intOf];omega
  ·obtain rfl:k = 8:=by omega
   obtain ⟨a2,c2,rfl,_⟩:=dG.subs hN;go_wp2;go_ret;exact ⟨_,rfl,hN,hB⟩
theorem sI (w:World):Calls Tryz.prog 85 #[] w fun e w'=>∃ v,e = .returned v∧dG w.heap.size w' v (Tm.gQ 8)∧Below w.heap.size w w':=by
 go_enter Tryz.func85,Tryz.ntmps85;go_wp2;go_loopw [1,2] (fun v i wr=>∃ k:Nat,k≤8∧i = .int .i64 ((k:Int)+1)∧dG w.heap.size wr v (Tm.gQ k)∧Below w.heap.size w wr) (fun _ i _=>9 - (intOf i).toNat)
 case atStart=>exact ⟨0,Nat.zero_le _,rfl,dG.nil _ _,Below.refl _ _⟩
 case round =>
  obtain ⟨k,hk,rfl,hN,hB⟩:=hrel;by_cases hlt:k < 8
  ·have hlt':(k:Int)+1≤8:=by omega
   have hsn:Hid (Tm.gQ (k+1) = Tm.gQ k++[[-((k:Int)+1)]]):=by
    show _ = _;rw [Tm.Et,show (-1:Int) - (k:Int) = -((k:Int)+1) from by omega]
   have Hln:=hid (Tm.gy k);obtain ⟨a0,c0,rfl,_⟩:=dG.subs hN;have hu:=New.lit w.heap.size wr [-((k:Int)+1)] hB.size (by unfold maxLen;simp);simp only [List.map_cons,List.map_nil,List.length_cons,List.length_nil,Nat.zero_add] at hu;have hA:Below w.heap.size w (((wr.alloc (.cells #[.int .i64 (-((k:Int)+1))] 3)).alloc (.cells #[.slice (some ⟨wr.heap.size,0,none⟩) 1 1] 35))):=(hB.alloc hB.size _).alloc (by have:=hB.size;simp;omega) _;have YA:=hid ((hN.alloc (.cells #[.int .i64 (-((k:Int)+1))] 3)).alloc (.cells #[.slice (some ⟨wr.heap.size,0,none⟩) 1 1] 35));have Hu2:=hid (hu.alloc (.cells #[.slice (some ⟨wr.heap.size,0,none⟩) 1 1] 35));have Sr:=hid (kP (wr.alloc (.cells #[.int .i64 (-((k:Int)+1))] 3)) (.slice (some ⟨wr.heap.size,0,none⟩) 1 1) 35 (wr.heap.size+1) (by simp));clear hu;go_wp2_with (at_builtin;go_loud (refine kG _ rfl _ _ rfl w.heap.size _ (Tm.gQ k) rfl YA.out (.slice (some ⟨wr.heap.size,0,none⟩) 1 1) [-((k:Int)+1)] (wr.heap.size+1) rfl Sr.out Hu2.out (by rw [Hln.out];omega) hA.size ?_);intro v' w2 iD hB3;obtain ⟨a2,c2,rfl,_⟩:=dG.subs iD)
   go_roundw
   case rel=>exact ⟨k+1,by omega,by go_num,by rw [hsn.out];simpa using iD,hA.trans hB3⟩
   case measure=>simp [intOf];omega
  ·obtain rfl:k = 8:=by omega
   obtain ⟨a2,c2,rfl,_⟩:=dG.subs hN;go_wp2;go_ret;exact ⟨_,rfl,hN,hB⟩
theorem dG.set {base:Nat} {W:World} {g c n:Nat} {ss:List (List Int)} (h:dG base W (.slice (some ⟨g,0,none⟩) n c) ss) (hn:n = ss.length) {u:Value} {t:List Int} (hu:New base W u t) (j:Nat) :
 dG base (W.setCell ⟨g,j,none⟩ u) (.slice (some ⟨g,0,none⟩) n c) (ss.set j t):=by
 subst hn;obtain ⟨us,h1,h2⟩:=h;have zi:us.length = ss.length:=by have:=h1.1;omega
 have hkeep:∀ (u':Value) (t':List Int),New base W u' t'→New base (W.setCell ⟨g,j,none⟩ u) u' t':=fun u' t' hN'=>World.ownsRow.kept hN' (dz W g j u) (by
  have:=New.apart hN' h1
  simpa [Value.ownBlock] using this)
 refine ⟨us.set j u,?_,fun i hi=>?_⟩
 ·have:=World.ownsRow.stored h1 j u
  rw [List.length_set];exact this.1
 ·rw [List.length_set] at hi
  by_cases e:i = j
  ·subst e
   refine ⟨u,by simp [zi,hi],?_⟩;simpa [hi] using hkeep u t hu
  ·obtain ⟨u',hu',hN'⟩:=h2 i hi
   have e':¬ j = i:=fun h=>e h.symm
   refine ⟨u',by rw [List.getElem?_set_ne e'];exact hu',?_⟩;rw [List.getElem?_set_ne e'];exact hkeep u' _ hN'
def Tm.fits (us:List (List Int)) (t:List Int):Bool:=decide ((Tm.applied us t).length≤30)
def Tm.Ij (ss us:List (List Int)):List (List Int):=ss.map (Tm.applied us)
def Tm.zg (ss us:List (List Int)):Int:=if Tm.dO ss = 0 then (if Tm.dO us = 0 then (if ss.all (Tm.fits us) = true then 0 else 2) else Tm.dO us) else Tm.dO ss
def Tm.JW (ss us:List (List Int)):List (List Int):=if Tm.zg ss us = 0 then Tm.Ij ss us else []
end Go.Proofs.YtglohanbpjaieaaGreat
namespace Go.Proofs.YtglohanbpjaieaaGreat
open Go.Proofs Go.RowKit Go.Shelf Go.Maps
def Tm.idx (seen:List Int) (s:Int):Nat:=seen.findIdx (fun x=>x == s)
def Tm.see (seen:List Int) (s:Int):List Int:=if s < 0 then (if seen.contains s = true then seen else seen++[s]) else seen
def Tm.name (seen:List Int) (s:Int):Int:=if s < 0 then -1 - (Tm.idx seen s:Int) else s
def Tm.aT (seen:List Int) (l:List Int):List Int:=l.foldl Tm.see seen
def Tm.eU (seen:List Int) (t:List Int) (k:Nat):List Int:=(List.range k).map fun i:Nat=>Tm.name (Tm.aT seen (t.take i)) (t[i]?.getD 0)
theorem Tm.o8 (seen t:List Int) (k:Nat):Tm.eU seen t (k+1) = Tm.eU seen t k++[Tm.name (Tm.aT seen (t.take k)) (t[k]?.getD 0)]:=by simp [Tm.eU,List.range_succ]
theorem Tm.bH (seen t:List Int) (k:Nat):(Tm.eU seen t k).length = k:=by simp [Tm.eU]
theorem Tm.BP (seen:List Int) {t:List Int} {k:Nat} (h:k < t.length):Tm.aT seen (t.take (k+1)) = Tm.see (Tm.aT seen (t.take k)) (t[k]?.getD 0):=by
 rw [j3 h];simp [Tm.aT,List.foldl_append]
theorem Tm.II {seen:List Int} {s:Int} (h:seen.contains s = false):Tm.idx seen s = seen.length:=by
 unfold Tm.idx;rw [List.findIdx_eq_length];intro x hx;have:¬ s∈seen:=by simpa using h
 simp only [beq_eq_false_iff_ne];rintro rfl;exact this hx
theorem Tm.O0 {seen:List Int} {s:Int} (h:seen.contains s = true) (r:List Int):Tm.idx (seen++r) s = Tm.idx seen s:=by
 unfold Tm.idx;rw [List.findIdx_append,if_pos];rw [List.findIdx_lt_length];exact ⟨s,by simpa using h,by simp⟩
theorem Tm.VN (seen:List Int) (s:Int):(Tm.see seen s).length≤seen.length+1:=by
 unfold Tm.see;split
 ·split
  ·omega
  ·simp
 ·omega
theorem Tm.D8 (t:List Int):∀ seen:List Int,(Tm.aT seen t).length≤seen.length+t.length:=by
 induction t with
 | nil=>intro seen;simp [Tm.aT]
 | cons s l ih =>
  intro seen;have h1:=ih (Tm.see seen s);have h2:=Tm.VN seen s;simp only [Tm.aT,List.foldl_cons,List.length_cons] at h1 ⊢;omega
structure D7 (seen:List Int) (D:DataW Unit):Prop where
 has:∀ s:Int,Maps.has D (.int .i64 s) = seen.contains s
 at_:∀ s:Int,seen.contains s = true→D.atKey (.int .i64 s) (.lit (.int .i64 0)) = .lit (.int .i64 (-1 - (Tm.idx seen s:Int)))
 size:Maps.size D = seen.length
theorem D7.empty:D7 [] (.map []):=⟨fun _=>rfl,fun s h=>by simp at h,rfl⟩
theorem D7.put {seen:List Int} {D:DataW Unit} (h:D7 seen D) (hT:Tidy D) {s:Int} (hs:seen.contains s = false) :
 D7 (seen++[s]) (D.put (.int .i64 s) (.lit (.int .i64 (-1 - (seen.length:Int))))):=by
 have hk:WideAt.IsKeyLit (.int .i64 s):=trivial;have hh:Maps.has D (.int .i64 s) = false:=by rw [h.has,hs]
 have hne:¬ s∈seen:=by simpa using hs
 refine ⟨fun x=>?_,fun x hx=>?_,?_⟩
 ·by_cases e:x = s
  ·subst e
   rw [has_put_same hT.isMap hk];simp
  ·rw [has_put_other (by simp [e]),h.has]
   simp [e]
 ·by_cases e:x = s
  ·subst e
   rw [atKey_put_same hT.isMap hk];have:Tm.idx (seen++[x]) x = seen.length:=by
    unfold Tm.idx;rw [List.findIdx_append,if_neg]
    ·simp
    ·rw [List.findIdx_lt_length]
     rintro ⟨y,hy,e⟩;have:y = x:=by simpa using e
     subst this;exact hne hy
   rw [this]
  ·rw [atKey_put_other (by simp [e])]
   have hx':seen.contains x = true:=by simpa [e] using hx
   rw [Tm.O0 hx'];exact h.at_ x hx'
 ·rw [size_put hT,hh,h.size]
  simp
def iA (W:World) (Bf Bm:Nat) (seen:List Int):Prop :=
 W.cell? ⟨Bf,0,none⟩ = some (.map (some Bm))∧∃ D:DataW Unit,W.ownsMap Tryz.prog 3 (plainElem Tryz.prog 3) Bm seen.length D∧D7 seen D
theorem iA.keep {W W':World} {Bf Bm:Nat} {seen:List Int} (h:iA W Bf Bm seen) (h1:W'.heap[Bf]? = W.heap[Bf]?) (h2:W'.heap[Bm]? = W.heap[Bm]?):iA W' Bf Bm seen:=by
 obtain ⟨hc,D,⟨es,clock,hb,r⟩,hM⟩:=h;exact ⟨(World.cell?_of_block (a:=⟨Bf,0,none⟩) h1).trans hc,D,⟨es,clock,h2.trans hb,r⟩,hM⟩
theorem iA.map {W:World} {Bf Bm:Nat} {seen:List Int} (h:iA W Bf Bm seen):∃ es clock,W.heap[Bm]? = some (.map es clock):=by
 obtain ⟨_,D,⟨es,clock,hb,_⟩,_⟩:=h;exact ⟨es,clock,hb⟩
theorem iA.lt {W:World} {Bf Bm:Nat} {seen:List Int} (h:iA W Bf Bm seen):Bf < W.heap.size∧Bm < W.heap.size:=by
 obtain ⟨es,clock,hb⟩:=h.map;exact ⟨lt_of_cell h.1,(Array.getElem?_eq_some_iff.1 hb).1⟩
theorem lC {W:World} {b o Bm:Nat} {v:Value} (hc:W.cell? ⟨b,o,none⟩ = some v) {es:Array (MapEntry)} {clock:Nat} (hm:W.heap[Bm]? = some (.map es clock)):b≠Bm:=by
 rintro rfl;simp [World.cell?,hm] at hc
structure aW (n m:Nat) (w w':World):Prop where
 os:w'.os = w.os
 tape:w'.tape = w.tape
 output:w'.output = w.output
 size:w.heap.size≤w'.heap.size
 block:∀ k,k < n→k≠m→w'.heap[k]? = w.heap[k]?
theorem aW.refl (n m:Nat) (w:World):aW n m w w:=⟨rfl,rfl,rfl,Nat.le_refl _,fun _ _ _=>rfl⟩
theorem aW.trans {n m:Nat} {a b c:World} (h:aW n m a b) (k:aW n m b c):aW n m a c :=
 ⟨k.os.trans h.os,k.tape.trans h.tape,k.output.trans h.output,Nat.le_trans h.size k.size,fun i hi hm=>(k.block i hi hm).trans (h.block i hi hm)⟩
theorem aW.of_below {n m:Nat} {a b:World} (h:Below n a b):aW n m a b:=⟨h.os,h.tape,h.output,h.size,fun k hk _=>h.block k hk⟩
theorem aW.jg {n m:Nat} {a b:World} (h:a.grownBy b (some m)) (hn:n≤a.heap.size):aW n m a b :=
 ⟨h.os,h.tape,h.output,h.size,fun k hk hm=>h.block k (by omega) (by simpa using hm)⟩
theorem aW.mono {n n' m:Nat} {a b:World} (h:aW n m a b) (hn:n'≤n):aW n' m a b:=⟨h.os,h.tape,h.output,h.size,fun k hk hm=>h.block k (by omega) hm⟩
theorem aW.below {n m:Nat} {a b:World} (h:aW n m a b) (hm:n≤m):Below n a b:=⟨h.os,h.tape,h.output,h.size,fun k hk=>h.block k hk (by omega)⟩
end Go.Proofs.YtglohanbpjaieaaGreat
