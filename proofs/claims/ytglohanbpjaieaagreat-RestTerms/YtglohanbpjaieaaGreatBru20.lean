/-
  Parts of the proof: Clo3, Clo4, Clo5, Clo6, Prs9, Nor2.
-/
import Derived.Test.YtglohanbpjaieaaGreatBru19
set_option maxHeartbeats 4000000
set_option maxRecDepth 100000
namespace Go.Proofs.YtglohanbpjaieaaGreat
open Go.Proofs Go.RowKit Go.Shelf Go.Maps
theorem o9 {rs:ah} {k:Nat} (hk:k < rs.length):rs.take (k+1) = rs.take k++[((rs[k]?.getD ([],[])).1,(rs[k]?.getD ([],[])).2)]:=by
 rw [List.take_succ_eq_append_getElem hk,List.getElem?_eq_getElem hk];rfl
theorem IJ {fl:Bool} (eb:Nat) (rs:ah) (a:Option Addr) (cap:Nat) (w:World) (YB:eb≤w.heap.size) (hR:aJ w.heap.size w a rs) (hl:rs.length≤1000) (he:∀ k,k < rs.length→Tm.err (rs[k]?.getD ([],[])).1 = 0∧Tm.err (rs[k]?.getD ([],[])).2 = 0) :
 Calls Tryz.prog 29 #[.slice a rs.length cap] w fun e w'=>∃ v,e = .returned v∧aU fl 54 w.heap.size eb w' v rs∧Below w.heap.size w w':=by
 have hl':(rs.length:Int)≤1000:=by omega
 have HR:=hid hR;have He:=hid he;clear hR he;go_enter Tryz.func29,Tryz.ntmps29;go_wp2;go_loopw [3,8] (fun ov v wr=>∃ k:Nat,k≤rs.length∧v = .int .i64 (k:Int)∧Hid (aU fl 54 w.heap.size eb wr ov (rs.take k))∧Below w.heap.size w wr) (fun _ v _=>rs.length - (intOf v).toNat)
 case atStart=>exact ⟨0,Nat.zero_le _,rfl,hid (aU.nil _ _ _ _),Below.refl _ _⟩
 case round =>
  obtain ⟨k,hk,rfl,hN,hB⟩:=hrel;obtain ⟨va,vc,rfl⟩:=hN.out.slice;by_cases hlt:k < rs.length
  ·have hlt':(k:Int) < (rs.length:Int):=by omega
   obtain ⟨b,off,rfl,hb,aL,cL,aR,cR,g1,g2,g3,g4,g5,g6,g7,g8⟩:=(HR.out.below hB) k hlt;obtain ⟨eL,eR⟩:=He.out k hlt;have hsn:=hid (o9 hlt);have htl:(rs.take k).length≤1000:=by rw [List.length_take];omega
   generalize (rs[k]?.getD ([],[])).1 = P at *;generalize (rs[k]?.getD ([],[])).2 = Q at *;generalize rs.take k = ps at *;obtain ⟨W1,hW1⟩:∃ W1,wr.alloc (.cells #[.slice aL P.length cL,.slice aR Q.length cR] 54) = W1:=⟨_,rfl⟩;have hBa:Below wr.heap.size wr W1:=by rw [← hW1];exact (Below.refl _ _).alloc (Nat.le_refl _) _
   have bx:bZ W1 wr.heap.size 54 (.slice aL P.length cL) (.slice aR Q.length cR):=by rw [← hW1];exact bZ.new wr _ _ _
   have HW1:=hid hW1;have hBd:Below W1.heap.size W1 W1.drew:=below_drewN (Below.refl _ W1) 1;have jw:=hid (kT P aL cL W1.drew eL (((g3.mono hB.size).below (hBa.trans (hBd.mono hBa.size))).mono (Nat.le_trans hBa.size hBd.size)));have hC2:=hid (fun W (hW:Below W1.heap.size W1 W)=>kT Q aR cR W eR (((g4.mono hB.size).below (hBa.trans (hW.mono hBa.size))).mono (Nat.le_trans hBa.size hW.size)));have hS:=hid (fun W (hW:Below W1.heap.size W1 W)=>(show W.cell? ⟨wr.heap.size,0,none⟩ = some (.slice aL P.length cL)∧W.cell? ⟨wr.heap.size,1,none⟩ = some (.slice aR Q.length cR) from ⟨(bx.below hW bx.lt).cell0,(bx.below hW bx.lt).cell1⟩));have hS0:=hS.out W1 (Below.refl _ _);have hSd:=hS.out W1.drew hBd;have hwB:=hB.trans (hBa.mono hB.size);have hwd:=hwB.trans (hBd.mono hwB.size);clear g3 g4 hW1 eL eR bx;have hap:=hid (fun v1 w2 (n1:New W1.drew.heap.size w2 v1 P) (b2:Below W1.drew.heap.size W1.drew w2) v2 w3 (n2:New w2.heap.size w3 v2 Q) (b3:Below w2.heap.size w2 w3)=>(show ∃ a1 c1 a2 c2,v1 = .slice a1 P.length c1∧v2 = .slice a2 Q.length c2∧P.length≤c1∧c1≤maxLen∧Q.length≤c2∧c2≤maxLen∧Hid (∀ V:World,V.heap = (w3.alloc (.cells #[v1,v2] 54)).heap→bX fl eb V a1 P∧bX fl eb V a2 Q∧aU fl 54 w.heap.size eb V (.slice va ps.length vc) ps∧V.cell? ⟨w3.heap.size,0,none⟩ = some v1∧V.cell? ⟨w3.heap.size,1,none⟩ = some v2)∧w.heap.size≤w3.heap.size∧Hid (Below w.heap.size w w3) from by
    obtain ⟨a1,c1,e1,i1,m1,LZ⟩:=bX.new (fl:=fl) (base:=eb) (n1.below b3) (.inr (Nat.le_trans YB hwd.size));obtain ⟨a2,c2,e2,i2,m2,L6⟩:=bX.new (fl:=fl) (base:=eb) n2 (.inr (Nat.le_trans YB (Nat.le_trans hwd.size b2.size)));have hw2:=hwd.trans (b2.mono hwd.size);have hw3:=hw2.trans (b3.mono hw2.size);have iD:=((((hN.out.below hBa).below hBd).below b2).below b3);refine ⟨a1,c1,a2,c2,e1,e2,m1,LZ,m2,L6,hid fun V hV=>?_,hw3.size,hid hw3⟩;have hk:∀ q,q < w3.heap.size→V.heap[q]? = w3.heap[q]?:=fun q hq=>by rw [hV];exact Below.heap_alloc w3 _ q hq
    have hs:w3.heap.size≤V.heap.size:=by rw [hV];simp
    have hb:V.heap[w3.heap.size]? = some (.cells #[v1,v2] 54 (0,0)):=by rw [hV];exact World.alloc_heap_new w3 _
    exact ⟨i1.keep hs (fun q hq _=>hk q hq),i2.keep hs (fun q hq _=>hk q hq),iD.keep hs (fun q hq=>hk q (iD.block hq).2.1) (fun q hq _=>hk q hq),by rw [aM hb];rfl,by rw [aM hb];rfl⟩))
   have hSx:=hid (fun V w4 (hs:V.cell? ⟨wr.heap.size,0,none⟩ = some (.slice aL P.length cL)∧V.cell? ⟨wr.heap.size,1,none⟩ = some (.slice aR Q.length cR)) (hg:World.grownBy V w4 (Value.slice va ps.length vc).ownBlock)=>(show w4.cell? ⟨wr.heap.size,0,none⟩ = some (.slice aL P.length cL)∧w4.cell? ⟨wr.heap.size,1,none⟩ = some (.slice aR Q.length cR) from by
    have hne:some wr.heap.size≠(Value.slice va ps.length vc).ownBlock:=fun e=>by have:=(hN.out.block e.symm).2.1;omega
    have hlt:wr.heap.size < V.heap.size:=by simpa using lt_of_cell hs.1
    have hbk:=hg.block wr.heap.size hlt hne;exact ⟨(World.cell?_of_block (a:=⟨wr.heap.size,0,none⟩) hbk).trans hs.1,(World.cell?_of_block (a:=⟨wr.heap.size,1,none⟩) hbk).trans hs.2⟩))
   go_wp2_with fail;rw [HW1.out];go_region_held3 (fun w'=>w'.cell? ⟨wr.heap.size,0,none⟩ = some (.slice aL P.length cL)∧w'.cell? ⟨wr.heap.size,1,none⟩ = some (.slice aR Q.length cR)) (first | assumption | exact hS0 | exact hSd | exact hS2 | exact Dc | exact DJ _ | exact hS5) (first
    | (go_at_call_of 47 (Value.slice aL P.length cL);refine jw.out.mono ?_;rintro e w2 ⟨v1,rfl,n1,b2⟩;have hb2:=hBd.trans (b2.mono hBd.size);have hS2:=hS.out w2 hb2)
    | (go_at_call_of 47 (Value.slice aR Q.length cR);refine (hC2.out w2 hb2).mono ?_;rintro e w3 ⟨v2,rfl,n2,b3⟩;have hb3:=hb2.trans (b3.mono hb2.size);have Dc:=hS.out w3 hb3;have DJ:=(fun o=>hS.out (w3.alloc o) (hb3.alloc hb3.size o));obtain ⟨a1,c1,a2,c2,rfl,rfl,m1,LZ,m2,L6,hV,hsz,hw3⟩:=hap.out v1 w2 n1 b2 v2 w3 n2 b3)
    | (refine Mc _ (by rfl) _ _ (by rfl) w.heap.size eb YB (.slice va ps.length vc) ps (by rfl) (hV.out _ (by rfl)).2.2.1 w3.heap.size a1 a2 P Q c1 c2 (by rfl) (hV.out _ (by rfl)).2.2.2.1 (hV.out _ (by rfl)).2.2.2.2 (hV.out _ (by rfl)).1 (hV.out _ (by rfl)).2.1 m1 LZ m2 L6 (by omega) (by simp;omega) ?_;intro g4 c4 w4 gI hg4 b4;have hS5:=hSx.out _ w4 (DJ _) hg4))
   have hw4:Hid (Below w.heap.size w w4):=by first | exact (hw3.out.alloc hsz _).trans b4 | exact (below_drewN (hw3.out.alloc hsz _) 1).trans b4
   have HN4:=hid gI;clear b4 hg4 hS0 hSd hS2 Dc DJ hS5 hSx hap jw hC2 hS n1 n2 b2 b3 hb2 hb3 gI;go_wp2;go_roundw
   case rel=>exact ⟨k+1,by omega,by go_num,by rw [hsn.out];simpa [Hid] using HN4,hw4.out⟩
   case measure=>simp [intOf];omega
  ·obtain rfl:k = rs.length:=by omega
   rw [List.take_length] at hN;rw [List.take_length];go_wp2;go_ret;exact ⟨_,rfl,hN.out,hB⟩
theorem pg {fl:Bool} (eb:Nat) (rs:ah) (a:Option Addr) (cap:Nat) (w:World) (YB:eb≤w.heap.size) (hR:aJ w.heap.size w a rs) (hl:rs.length≤1000) (he:∀ k,k < rs.length→Tm.err (rs[k]?.getD ([],[])).1 = 0∧Tm.err (rs[k]?.getD ([],[])).2 = 0) :
 Calls Tryz.prog 30 #[.slice a rs.length cap] w fun e w'=>∃ v,e = .returned v∧aU fl 40 w.heap.size eb w' v rs∧Below w.heap.size w w':=by
 have hl':(rs.length:Int)≤1000:=by omega
 have HR:=hid hR;have He:=hid he;clear hR he;go_enter Tryz.func30,Tryz.ntmps30;go_wp2;go_loopw [3,8] (fun ov v wr=>∃ k:Nat,k≤rs.length∧v = .int .i64 (k:Int)∧Hid (aU fl 40 w.heap.size eb wr ov (rs.take k))∧Below w.heap.size w wr) (fun _ v _=>rs.length - (intOf v).toNat)
 case atStart=>exact ⟨0,Nat.zero_le _,rfl,hid (aU.nil _ _ _ _),Below.refl _ _⟩
 case round =>
  obtain ⟨k,hk,rfl,hN,hB⟩:=hrel;obtain ⟨va,vc,rfl⟩:=hN.out.slice;by_cases hlt:k < rs.length
  ·have hlt':(k:Int) < (rs.length:Int):=by omega
   obtain ⟨b,off,rfl,hb,aL,cL,aR,cR,g1,g2,g3,g4,g5,g6,g7,g8⟩:=(HR.out.below hB) k hlt;obtain ⟨eL,eR⟩:=He.out k hlt;have hsn:=hid (o9 hlt);have htl:(rs.take k).length≤1000:=by rw [List.length_take];omega
   generalize (rs[k]?.getD ([],[])).1 = P at *;generalize (rs[k]?.getD ([],[])).2 = Q at *;generalize rs.take k = ps at *;obtain ⟨W1,hW1⟩:∃ W1,wr.alloc (.cells #[.slice aL P.length cL,.slice aR Q.length cR] 40) = W1:=⟨_,rfl⟩;have hBa:Below wr.heap.size wr W1:=by rw [← hW1];exact (Below.refl _ _).alloc (Nat.le_refl _) _
   have bx:bZ W1 wr.heap.size 40 (.slice aL P.length cL) (.slice aR Q.length cR):=by rw [← hW1];exact bZ.new wr _ _ _
   have HW1:=hid hW1;have hBd:Below W1.heap.size W1 W1.drew:=below_drewN (Below.refl _ W1) 1;have jw:=hid (kT P aL cL W1.drew eL (((g3.mono hB.size).below (hBa.trans (hBd.mono hBa.size))).mono (Nat.le_trans hBa.size hBd.size)));have hC2:=hid (fun W (hW:Below W1.heap.size W1 W)=>kT Q aR cR W eR (((g4.mono hB.size).below (hBa.trans (hW.mono hBa.size))).mono (Nat.le_trans hBa.size hW.size)));have hS:=hid (fun W (hW:Below W1.heap.size W1 W)=>(show W.cell? ⟨wr.heap.size,0,none⟩ = some (.slice aL P.length cL)∧W.cell? ⟨wr.heap.size,1,none⟩ = some (.slice aR Q.length cR) from ⟨(bx.below hW bx.lt).cell0,(bx.below hW bx.lt).cell1⟩));have hS0:=hS.out W1 (Below.refl _ _);have hSd:=hS.out W1.drew hBd;have hwB:=hB.trans (hBa.mono hB.size);have hwd:=hwB.trans (hBd.mono hwB.size);clear g3 g4 hW1 eL eR bx;have hap:=hid (fun v1 w2 (n1:New W1.drew.heap.size w2 v1 P) (b2:Below W1.drew.heap.size W1.drew w2) v2 w3 (n2:New w2.heap.size w3 v2 Q) (b3:Below w2.heap.size w2 w3)=>(show ∃ a1 c1 a2 c2,v1 = .slice a1 P.length c1∧v2 = .slice a2 Q.length c2∧P.length≤c1∧c1≤maxLen∧Q.length≤c2∧c2≤maxLen∧Hid (∀ V:World,V.heap = (w3.alloc (.cells #[v1,v2] 40)).heap→bX fl eb V a1 P∧bX fl eb V a2 Q∧aU fl 40 w.heap.size eb V (.slice va ps.length vc) ps∧V.cell? ⟨w3.heap.size,0,none⟩ = some v1∧V.cell? ⟨w3.heap.size,1,none⟩ = some v2)∧w.heap.size≤w3.heap.size∧Hid (Below w.heap.size w w3) from by
    obtain ⟨a1,c1,e1,i1,m1,LZ⟩:=bX.new (fl:=fl) (base:=eb) (n1.below b3) (.inr (Nat.le_trans YB hwd.size));obtain ⟨a2,c2,e2,i2,m2,L6⟩:=bX.new (fl:=fl) (base:=eb) n2 (.inr (Nat.le_trans YB (Nat.le_trans hwd.size b2.size)));have hw2:=hwd.trans (b2.mono hwd.size);have hw3:=hw2.trans (b3.mono hw2.size);have iD:=((((hN.out.below hBa).below hBd).below b2).below b3);refine ⟨a1,c1,a2,c2,e1,e2,m1,LZ,m2,L6,hid fun V hV=>?_,hw3.size,hid hw3⟩;have hk:∀ q,q < w3.heap.size→V.heap[q]? = w3.heap[q]?:=fun q hq=>by rw [hV];exact Below.heap_alloc w3 _ q hq
    have hs:w3.heap.size≤V.heap.size:=by rw [hV];simp
    have hb:V.heap[w3.heap.size]? = some (.cells #[v1,v2] 40 (0,0)):=by rw [hV];exact World.alloc_heap_new w3 _
    exact ⟨i1.keep hs (fun q hq _=>hk q hq),i2.keep hs (fun q hq _=>hk q hq),iD.keep hs (fun q hq=>hk q (iD.block hq).2.1) (fun q hq _=>hk q hq),by rw [aM hb];rfl,by rw [aM hb];rfl⟩))
   have hSx:=hid (fun V w4 (hs:V.cell? ⟨wr.heap.size,0,none⟩ = some (.slice aL P.length cL)∧V.cell? ⟨wr.heap.size,1,none⟩ = some (.slice aR Q.length cR)) (hg:World.grownBy V w4 (Value.slice va ps.length vc).ownBlock)=>(show w4.cell? ⟨wr.heap.size,0,none⟩ = some (.slice aL P.length cL)∧w4.cell? ⟨wr.heap.size,1,none⟩ = some (.slice aR Q.length cR) from by
    have hne:some wr.heap.size≠(Value.slice va ps.length vc).ownBlock:=fun e=>by have:=(hN.out.block e.symm).2.1;omega
    have hlt:wr.heap.size < V.heap.size:=by simpa using lt_of_cell hs.1
    have hbk:=hg.block wr.heap.size hlt hne;exact ⟨(World.cell?_of_block (a:=⟨wr.heap.size,0,none⟩) hbk).trans hs.1,(World.cell?_of_block (a:=⟨wr.heap.size,1,none⟩) hbk).trans hs.2⟩))
   go_wp2_with fail;rw [HW1.out];go_region_held3 (fun w'=>w'.cell? ⟨wr.heap.size,0,none⟩ = some (.slice aL P.length cL)∧w'.cell? ⟨wr.heap.size,1,none⟩ = some (.slice aR Q.length cR)) (first | assumption | exact hS0 | exact hSd | exact hS2 | exact Dc | exact DJ _ | exact hS5) (first
    | (go_at_call_of 47 (Value.slice aL P.length cL);refine jw.out.mono ?_;rintro e w2 ⟨v1,rfl,n1,b2⟩;have hb2:=hBd.trans (b2.mono hBd.size);have hS2:=hS.out w2 hb2)
    | (go_at_call_of 47 (Value.slice aR Q.length cR);refine (hC2.out w2 hb2).mono ?_;rintro e w3 ⟨v2,rfl,n2,b3⟩;have hb3:=hb2.trans (b3.mono hb2.size);have Dc:=hS.out w3 hb3;have DJ:=(fun o=>hS.out (w3.alloc o) (hb3.alloc hb3.size o));obtain ⟨a1,c1,a2,c2,rfl,rfl,m1,LZ,m2,L6,hV,hsz,hw3⟩:=hap.out v1 w2 n1 b2 v2 w3 n2 b3)
    | (refine En _ (by rfl) _ _ (by rfl) w.heap.size eb YB (.slice va ps.length vc) ps (by rfl) (hV.out _ (by rfl)).2.2.1 w3.heap.size a1 a2 P Q c1 c2 (by rfl) (hV.out _ (by rfl)).2.2.2.1 (hV.out _ (by rfl)).2.2.2.2 (hV.out _ (by rfl)).1 (hV.out _ (by rfl)).2.1 m1 LZ m2 L6 (by omega) (by simp;omega) ?_;intro g4 c4 w4 gI hg4 b4;have hS5:=hSx.out _ w4 (DJ _) hg4))
   have hw4:Hid (Below w.heap.size w w4):=by first | exact (hw3.out.alloc hsz _).trans b4 | exact (below_drewN (hw3.out.alloc hsz _) 1).trans b4
   have HN4:=hid gI;clear b4 hg4 hS0 hSd hS2 Dc DJ hS5 hSx hap jw hC2 hS n1 n2 b2 b3 hb2 hb3 gI;go_wp2;go_roundw
   case rel=>exact ⟨k+1,by omega,by go_num,by rw [hsn.out];simpa [Hid] using HN4,hw4.out⟩
   case measure=>simp [intOf];omega
  ·obtain rfl:k = rs.length:=by omega
   rw [List.take_length] at hN;rw [List.take_length];go_wp2;go_ret;exact ⟨_,rfl,hN.out,hB⟩
theorem IK (s:Int) (w:World):Calls Tryz.prog 91 #[.int .i64 s] w fun e w'=>e = .returned (.bool (aV s))∧w' = w:=by
 unfold aV;go_enter Tryz.func91,Tryz.ntmps91;go_wp2;go_ret;exact ⟨rfl,rfl⟩
theorem Kh (zs:List Int) (a:Option Addr) (cap:Nat) (w:World) (hI:Ints w.heap.size w a zs) (hm:zs.length≤maxLen) :
 Calls Tryz.prog 119 #[.slice a zs.length cap,.func (.func 91) #[] #[]] w fun e w'=>∃ k:Int,e = .returned (.int .i64 k)∧decide (0≤k) = zs.any (fun s=>aV s)∧w' = w:=by
 unfold maxLen at hm;have hF:=fun s=>IK s w
 go_enter Tryz.func119,Tryz.ntmps119;go_wp2;go_loop [8] (fun i=>∃ k:Nat,k≤zs.length∧i = .int .i64 (k:Int)∧(zs.take k).any (fun s=>aV s) = false) (fun i=>zs.length - (intOf i).toNat)
 case atStart=>exact ⟨0,Nat.zero_le _,rfl,by simp⟩
 case round =>
  obtain ⟨k,hk,rfl,hno⟩:=hrel;by_cases hlt:k < zs.length
  ·have hlt':(k:Int) < (zs.length:Int):=by omega
   obtain ⟨b,off,rfl,hb,hc⟩:=hI.at (by omega);have hck:=hc k hlt;have hsn:=hid (qj (p:=fun s=>aV s) hlt hno);have hye:=hid (yL (p:=fun s=>aV s) hlt);have GX:=hid (hF (zs[k]?.getD 0));clear hc hI hno;generalize zs[k]?.getD 0 = s at *;cases hq:(aV s) with
   | true =>
    rw [hq] at GX;have Hy:=hid (hye.out hq);clear hq hsn;go_wp2_with (go_at_call 91;refine GX.out.mono ?_;rintro e w ⟨rfl,rfl⟩)
    go_ret;exact ⟨_,rfl,by rw [Hy.out];simp,rfl⟩
   | false =>
    rw [hq] at GX;have Hn:=hid (hsn.out hq);clear hq hye;go_wp2_with (go_at_call 91;refine GX.out.mono ?_;rintro e w ⟨rfl,rfl⟩)
    go_round
    case rel=>exact ⟨k+1,by omega,by go_num,Hn.out⟩
    case measure=>simp [intOf];omega
  ·obtain rfl:k = zs.length:=by omega
   rw [List.take_length] at hno;have hn:=hid hno;clear hno;go_wp2;go_ret;exact ⟨-1,rfl,by rw [hn.out];rfl,rfl⟩
theorem Eu (zs:List Int) (a:Option Addr) (cap:Nat) (w:World) (hI:Ints w.heap.size w a zs) (hm:zs.length≤maxLen) :
 Calls Tryz.prog 92 #[.slice a zs.length cap,.func (.func 91) #[] #[]] w fun e w'=>e = .returned (.bool (zs.any (fun s=>aV s)))∧w' = w:=by
 have hC:=Kh zs a cap w hI hm;go_enter Tryz.func92,Tryz.ntmps92;go_wp2_with fail;refine hC.mono ?_;rintro e w ⟨k,rfl,hk,rfl⟩;have Hk:=hid hk;clear hk hC;go_wp2;go_ret;exact ⟨fG Hk.out,rfl⟩
theorem jT {fn:Func} {tmps:Array Value} {w:World} {a b B:Nat} {x y:Value} (h:fn.results = #[.cell a 54,.tmp b]) (ha:tmps.getD a undef = .pointer (some ⟨B,0,none⟩)) (hb:bZ w B 54 x y):(results fn tmps).run Tryz.prog w = .ok (.tuple #[.agg #[x,y],tmps.getD b undef]) w:=by
 have ha':tmps[a]?.getD undef = .pointer (some ⟨B,0,none⟩):=by rw [← ha];simp
 simp only [results,h];simp [go_sem,ha',hb.cell0,hb.cell1]
theorem New.pV {base B i:Nat} {W:World} {v x:Value} {zs:List Int} (h:New base W v zs) (hb:B < base):New base (W.setCell ⟨B,i,none⟩ x) v zs :=
 ⟨h.1,h.2.elim .inl fun ⟨g,c,cur,h1,h2,h3,h4⟩=>.inr ⟨g,c,cur,h1,h2,(Below.heap_setCell W ⟨B,i,none⟩ x g (show g≠B by omega)).trans h3,h4⟩⟩
def Tm.jG (P:List Int):Int:=if (Tm.plain P).any aV = true then 3 else 0
def Tm.lU (P Q:List Int):List Int × List Int:=if Tm.jG P = 0 then (Tm.plain P,Tm.fu P Q) else ([],[])
theorem Ev (P Q:List Int) (aP aQ:Option Addr) (cP cQ:Nat) (w:World) (eP:Tm.err P = 0) (eQ:Tm.err Q = 0) (hP:Ints w.heap.size w aP P) (hQ:Ints w.heap.size w aQ Q) :
 Calls Tryz.prog 60 #[.agg #[.slice aP P.length cP,.slice aQ Q.length cQ]] w fun e w'=>∃ v u,e = .returned (.tuple #[.agg #[v,u],.int .i64 (Tm.jG P)])∧New w.heap.size w' v (Tm.lU P Q).1∧New w.heap.size w' u (Tm.lU P Q).2∧Below w.heap.size w w':=by
 have lP:=Tm.aI eP;have lQ:=Tm.aI eQ;obtain ⟨W3,hW3⟩:∃ W3,((w.alloc (.cells #[.slice aP P.length cP,.slice aQ Q.length cQ] 88)).alloc (.cells #[.slice none 0 0,.slice none 0 0] 54)).alloc (.cells #[.slice aP P.length cP,.slice aQ Q.length cQ] 35) = W3:=⟨_,rfl⟩;have hB3:Below w.heap.size w W3:=by rw [← hW3];exact (((Below.refl _ w).alloc (Nat.le_refl _) _).alloc (by simp) _).alloc (by simp;omega) _
 have hs3:W3.heap.size = w.heap.size+1+1+1:=by rw [← hW3];simp
 have bx:bZ W3 (w.heap.size+1) 54 (.slice none 0 0) (.slice none 0 0):=by
  rw [← hW3];have h:=bZ.new (w.alloc (.cells #[.slice aP P.length cP,.slice aQ Q.length cQ] 88)) 54 (.slice none 0 0) (.slice none 0 0);rw [World.size_alloc] at h;exact h.kept (World.grownBy_alloc _ _ none) (by simp)
 have blk:W3.heap[w.heap.size+1+1]? = some (.cells #[.slice aP P.length cP,.slice aQ Q.length cQ] 35 (0,0)):=by
  rw [← hW3];have h:=World.alloc_heap_new ((w.alloc (.cells #[.slice aP P.length cP,.slice aQ Q.length cQ] 88)).alloc (.cells #[.slice none 0 0,.slice none 0 0] 54)) (.cells #[.slice aP P.length cP,.slice aQ Q.length cQ] 35);simpa only [World.size_alloc] using h
 have hC:=hid (F8 P Q aP aQ cP cQ (w.heap.size+1+1) W3 (by omega) (by omega) (Tm.lH eP) (Tm.Ic eP) (Tm.lH eQ) (Tm.Ic eQ) ((aM blk 0).trans rfl) ((aM blk 1).trans rfl) ((hP.below hB3).mono hB3.size) ((hQ.below hB3).mono hB3.size));have hE:Hid (Tm.jG P = if (Tm.plain P).any aV = true then 3 else 0):=rfl;have hV:Hid (Tm.lU P Q = if Tm.jG P = 0 then (Tm.plain P,Tm.fu P Q) else ([],[])):=rfl;have lp:(Tm.plain P).length≤30:=by have:(Tm.plain P).length = P.length:=Tm.bH _ _ _;omega
 have HW3:=hid hW3;have c0:(w.alloc (.cells #[.slice aP P.length cP,.slice aQ Q.length cQ] 88)).cell? ⟨w.heap.size,0,none⟩ = some (.slice aP P.length cP):=(aM (World.alloc_heap_new w _) 0).trans rfl;have c1:(w.alloc (.cells #[.slice aP P.length cP,.slice aQ Q.length cQ] 88)).cell? ⟨w.heap.size,1,none⟩ = some (.slice aQ Q.length cQ):=(aM (World.alloc_heap_new w _) 1).trans rfl;clear hW3 hP hQ blk eP eQ;generalize Tm.plain P = pP at *;generalize Tm.fu P Q = pQ at *;have hCf:=hid (fun W a c (h:Ints W.heap.size W a pP)=>Eu pP a c W h (by unfold maxLen;omega));change Hid (∀ (W:World) (a:Option Addr) (c:Nat),Ints W.heap.size W a pP→Calls _ _ _ W fun e w'=>e = .returned (.bool (pP.any aV))∧w' = W) at hCf;generalize pP.any aV = fb at *;cases fb with
 | true =>
  rw [if_pos rfl] at hE;rw [hE.out,if_neg (by decide)] at hV;rw [hE.out,hV.out];clear hE hV;go_enter Tryz.func60,Tryz.ntmps60;go_wp2_with fail;rw [HW3.out];refine hC.out.mono ?_;rintro e w4 ⟨v4,rfl,gI,b4⟩;obtain ⟨g,cp,u0,u1,rfl,hg,z0,z1,n0,n1⟩:=dG.two gI;obtain ⟨x8,c8,rfl,i8,_⟩:=New.ints n0;obtain ⟨x9,c9,rfl,_⟩:=New.ints n1;have B4:=hB3.trans (b4.mono hB3.size);have q4:bZ w4 (w.heap.size+1) 54 (.slice none 0 0) (.slice none 0 0):=bx.below b4 bx.lt;have k0:=q4.cell0;have k1:=q4.cell1;have f0:=q4.frozen 0;have f1:=q4.frozen 1;have k1':=fun v=>(q4.set0 v).cell1
  have Ro:=fun v=>(q4.set0 v).frozen 1
  have N0:=hid n0;have N1:=hid n1;have hgw:w.heap.size+1 < g:=by omega
  have hgs:w.heap.size+1 < W3.heap.size:=by omega
  clear hC gI n0 n1 b4;go_wp2_with fail;refine (hCf.out w4 x8 c8 i8).mono ?_;rintro e w4 ⟨rfl,rfl⟩;clear hCf;go_wp2;refine bodyPost_ret (jT rfl rfl ((q4.set0 _).set1 _)) rfl ?_;exact ⟨_,_,rfl,New.nil _ _,New.nil _ _,(B4.setCell (p:=⟨w.heap.size+1,0,none⟩) (by show w.heap.size≤w.heap.size+1;omega) _).setCell (p:=⟨w.heap.size+1,1,none⟩) (by show w.heap.size≤w.heap.size+1;omega) _⟩
 | false =>
  rw [if_neg (by simp)] at hE;rw [hE.out,if_pos rfl] at hV;rw [hE.out,hV.out];clear hE hV;go_enter Tryz.func60,Tryz.ntmps60;go_wp2_with fail;rw [HW3.out];refine hC.out.mono ?_;rintro e w4 ⟨v4,rfl,gI,b4⟩;obtain ⟨g,cp,u0,u1,rfl,hg,z0,z1,n0,n1⟩:=dG.two gI;obtain ⟨x8,c8,rfl,i8,_⟩:=New.ints n0;obtain ⟨x9,c9,rfl,_⟩:=New.ints n1;have B4:=hB3.trans (b4.mono hB3.size);have q4:bZ w4 (w.heap.size+1) 54 (.slice none 0 0) (.slice none 0 0):=bx.below b4 bx.lt;have k0:=q4.cell0;have k1:=q4.cell1;have f0:=q4.frozen 0;have f1:=q4.frozen 1;have k1':=fun v=>(q4.set0 v).cell1
  have Ro:=fun v=>(q4.set0 v).frozen 1
  have N0:=hid n0;have N1:=hid n1;have hgw:w.heap.size+1 < g:=by omega
  have hgs:w.heap.size+1 < W3.heap.size:=by omega
  clear hC gI n0 n1 b4;go_wp2_with fail;refine (hCf.out w4 x8 c8 i8).mono ?_;rintro e w4 ⟨rfl,rfl⟩;clear hCf;go_wp2;go_region
  all_goals
   go_wp2;refine bodyPost_ret (jT rfl rfl ((q4.set0 _).set1 _)) rfl ?_;refine ⟨_,_,rfl,?_,?_,below_drewN ((B4.setCell (p:=⟨w.heap.size+1,0,none⟩) (by show w.heap.size≤w.heap.size+1;omega) _).setCell (p:=⟨w.heap.size+1,1,none⟩) (by show w.heap.size≤w.heap.size+1;omega) _) 1⟩
   ·exact ((N0.out.pV hgs).pV hgs).mono (by omega)
   ·exact ((N1.out.pV hgs).pV hgs).mono (by omega)
def Tm.dir (rk P Q:List Int):Int × List Int × List Int:=if Tm.bg rk P Q = true then (Tm.jG P,Tm.lU P Q) else if Tm.bg rk Q P = true then (Tm.jG Q,Tm.lU Q P) else (6,[],[])
theorem IL (rk P Q:List Int) (ar aP aQ:Option Addr) (cr cP cQ:Nat) (w:World) (hk:Tm.aZ rk = 0) (eP:Tm.err P = 0) (eQ:Tm.err Q = 0) (hR:Ints w.heap.size w ar rk) (hP:Ints w.heap.size w aP P) (hQ:Ints w.heap.size w aQ Q) (p1:P.length≤cP) (p2:cP≤maxLen) (q1:Q.length≤cQ) (q2:cQ≤maxLen) :
 Calls Tryz.prog 32 #[.slice ar rk.length cr,.slice aP P.length cP,.slice aQ Q.length cQ] w fun e w'=>∃ v u,e = .returned (.tuple #[.agg #[v,u],.int .i64 (Tm.dir rk P Q).1])∧New w.heap.size w' v (Tm.dir rk P Q).2.1∧New w.heap.size w' u (Tm.dir rk P Q).2.2∧Below w.heap.size w w':=by
 obtain ⟨W2,hW2⟩:∃ W2,(w.alloc (.cells #[.slice none 0 0,.slice none 0 0] 54)).alloc (.cells #[.slice aP P.length cP,.slice aQ Q.length cQ,.slice aQ Q.length cQ,.slice aP P.length cP] 88) = W2:=⟨_,rfl⟩;have hB2:Below w.heap.size w W2:=by rw [← hW2];exact ((Below.refl _ w).alloc (Nat.le_refl _) _).alloc (by simp) _
 have hs2:W2.heap.size = w.heap.size+1+1:=by rw [← hW2];simp
 have bx:bZ W2 w.heap.size 54 (.slice none 0 0) (.slice none 0 0):=by
  rw [← hW2];exact (bZ.new w _ _ _).kept (World.grownBy_alloc _ _ none) (by simp)
 have blk:W2.heap[w.heap.size+1]? = some (.cells #[.slice aP P.length cP,.slice aQ Q.length cQ,.slice aQ Q.length cQ,.slice aP P.length cP] 88 (0,0)):=by
  rw [← hW2];have h:=World.alloc_heap_new (w.alloc (.cells #[.slice none 0 0,.slice none 0 0] 54)) (.cells #[.slice aP P.length cP,.slice aQ Q.length cQ,.slice aQ Q.length cQ,.slice aP P.length cP] 88);simpa only [World.size_alloc] using h
 have hA1:=hid (fun W (hW:Below w.heap.size w W)=>mJ rk P Q ar aP aQ cr cP cQ W ((hR.below hW).mono hW.size) ((hP.below hW).mono hW.size) ((hQ.below hW).mono hW.size) p1 p2 q1 q2);have hA2:=hid (fun W (hW:Below w.heap.size w W)=>mJ rk Q P ar aQ aP cr cQ cP W ((hR.below hW).mono hW.size) ((hQ.below hW).mono hW.size) ((hP.below hW).mono hW.size) q1 q2 p1 p2);rw [Tm.gz hk eP eQ] at hA1;rw [Tm.gz hk eQ eP] at hA2;have hL1:=hid (fun W (hW:Below w.heap.size w W)=>Ev P Q aP aQ cP cQ W eP eQ ((hP.below hW).mono hW.size) ((hQ.below hW).mono hW.size));have hL2:=hid (fun W (hW:Below w.heap.size w W)=>Ev Q P aQ aP cQ cP W eQ eP ((hQ.below hW).mono hW.size) ((hP.below hW).mono hW.size));have hD:Hid (Tm.dir rk P Q = if Tm.bg rk P Q = true then (Tm.jG P,Tm.lU P Q) else if Tm.bg rk Q P = true then (Tm.jG Q,Tm.lU Q P) else (6,[],[])):=rfl;have HW2:=hid hW2;have HK:=hid (fun W (hW:Below W2.heap.size W2 W)=>(show W.cell? ⟨w.heap.size+1,0,none⟩ = some (.slice aP P.length cP)∧W.cell? ⟨w.heap.size+1,1,none⟩ = some (.slice aQ Q.length cQ)∧W.cell? ⟨w.heap.size+1,2,none⟩ = some (.slice aQ Q.length cQ)∧W.cell? ⟨w.heap.size+1,3,none⟩ = some (.slice aP P.length cP)∧bZ W w.heap.size 54 (.slice none 0 0) (.slice none 0 0) from by
  have hb:=(hW.block (w.heap.size+1) (by omega)).trans blk;exact ⟨(aM hb 0).trans rfl,(aM hb 1).trans rfl,(aM hb 2).trans rfl,(aM hb 3).trans rfl,bx.below hW bx.lt⟩))
 obtain ⟨k0,k1,k2,k3,_⟩:=HK.out W2 (Below.refl _ _);clear hW2 hR hP hQ p1 p2 q1 q2 blk bx hk eP eQ;generalize Tm.bg rk P Q = qa at *;generalize Tm.bg rk Q P = qb at *;generalize Tm.jG P = e1 at *;generalize Tm.jG Q = e2 at *;generalize Tm.lU P Q = v1 at *;generalize Tm.lU Q P = v2 at *;obtain ⟨v1a,v1b⟩:=v1;obtain ⟨v2a,v2b⟩:=v2;dsimp only at hL1 hL2 hD
 cases qa with
 | true =>
  rw [if_pos rfl] at hD;rw [hD.out];clear hD hA2 hL2;go_enter Tryz.func32,Tryz.ntmps32;go_wp2_with fail;rw [HW2.out];refine wp_loop_rounds 3 ?_;rw [rounds_succ];obtain ⟨W3,hW3⟩:∃ V,W2.alloc (.cells #[.slice aP P.length cP,.slice aQ Q.length cQ] 88) = V:=⟨_,rfl⟩;have bW3:Below W2.heap.size W2 W3:=by rw [← hW3];exact (Below.refl _ _).alloc (Nat.le_refl _) _
  have Mj:bZ W3 W2.heap.size 88 (.slice aP P.length cP) (.slice aQ Q.length cQ):=by rw [← hW3];exact bZ.new W2 _ _ _
  have Mk:=Mj.cell0;have Ml:=Mj.cell1;rw [hs2] at Mj Mk Ml;have BN:=(Below.refl W2.heap.size W2).trans (bW3.mono (Below.refl W2.heap.size W2).size);have Ew:=hB2.trans (BN.mono hB2.size);have Tw:=hid hW3;clear hW3;go_wp2_with fail;rw [Tw.out];refine (hA1.out W3 Ew).mono ?_;rintro e w4 ⟨rfl,b4⟩;have B4:=BN.trans (b4.mono BN.size);have Ki:=Ew.trans (b4.mono Ew.size);have y0:=(Mj.below b4 Mj.lt).cell0;have y1:=(Mj.below b4 Mj.lt).cell1;have hC:=hid (hL1.out w4 Ki);go_wp2_with fail;refine hC.out.mono ?_;rintro e w5 ⟨v,u,rfl,n1,n2,b5⟩;obtain ⟨x1,d1,rfl,_⟩:=New.ints n1;obtain ⟨x2,d2,rfl,_⟩:=New.ints n2;have B5:=B4.trans (b5.mono B4.size);have q5:=(HK.out w5 B5).2.2.2.2;have j0:=q5.cell0;have j1:=q5.cell1;have f0:=q5.frozen 0;have f1:=q5.frozen 1;have j1':=fun v=>(q5.set0 v).cell1
  have Ro:=fun v=>(q5.set0 v).frozen 1
  have N1:=hid n1;have N2:=hid n2;have BW5:=Ki.trans (b5.mono Ki.size);have hlt:w.heap.size < w4.heap.size:=by have:=B4.size;omega
  clear n1 n2 hC;go_wp2;refine bodyPost_ret (jT (a:=6) (b:=7) (B:=w.heap.size) Tryz.results32 rfl ((q5.set0 _).set1 _)) rfl ?_;refine ⟨_,_,rfl,?_,?_,(BW5.setCell (p:=⟨w.heap.size,0,none⟩) (Nat.le_refl _) _).setCell (p:=⟨w.heap.size,1,none⟩) (Nat.le_refl _) _⟩
  ·exact ((N1.out.pV hlt).pV hlt).mono (by omega)
  ·exact ((N2.out.pV hlt).pV hlt).mono (by omega)
 | false =>
  rw [if_neg (by simp)] at hD;cases qb with
  | true =>
   rw [if_pos rfl] at hD;rw [hD.out];clear hD;clear hL1;go_enter Tryz.func32,Tryz.ntmps32;go_wp2_with fail;rw [HW2.out];refine wp_loop_rounds 3 ?_;rw [rounds_succ];obtain ⟨W3,hW3⟩:∃ V,W2.alloc (.cells #[.slice aP P.length cP,.slice aQ Q.length cQ] 88) = V:=⟨_,rfl⟩;have bW3:Below W2.heap.size W2 W3:=by rw [← hW3];exact (Below.refl _ _).alloc (Nat.le_refl _) _
   have Mj:bZ W3 W2.heap.size 88 (.slice aP P.length cP) (.slice aQ Q.length cQ):=by rw [← hW3];exact bZ.new W2 _ _ _
   have Mk:=Mj.cell0;have Ml:=Mj.cell1;rw [hs2] at Mj Mk Ml;have BN:=(Below.refl W2.heap.size W2).trans (bW3.mono (Below.refl W2.heap.size W2).size);have Ew:=hB2.trans (BN.mono hB2.size);have Tw:=hid hW3;clear hW3;go_wp2_with fail;rw [Tw.out];refine (hA1.out W3 Ew).mono ?_;rintro e w3 ⟨rfl,b3⟩;have B3:=BN.trans (b3.mono BN.size);have afq:=Ew.trans (b3.mono Ew.size);obtain ⟨_,_,m2,m3,_⟩:=HK.out w3 B3;clear k0 k1 k2 k3 Mk Ml;go_wp2;rw [rounds_succ];obtain ⟨W4,qd⟩:∃ V,w3.alloc (.cells #[.slice aQ Q.length cQ,.slice aP P.length cP] 88) = V:=⟨_,rfl⟩;have bW4:Below w3.heap.size w3 W4:=by rw [← qd];exact (Below.refl _ _).alloc (Nat.le_refl _) _
   have Qo:bZ W4 w3.heap.size 88 (.slice aQ Q.length cQ) (.slice aP P.length cP):=by rw [← qd];exact bZ.new w3 _ _ _
   have afr:=Qo.cell0;have afs:=Qo.cell1;have Ki:=B3.trans (bW4.mono B3.size);have Mm:=hB2.trans (Ki.mono hB2.size);have YC:=hid qd;clear qd;go_wp2_with fail;rw [YC.out];refine (hA2.out W4 Mm).mono ?_;rintro e w4 ⟨rfl,b4⟩;have B4:=Ki.trans (b4.mono Ki.size);have Ki:=Mm.trans (b4.mono Mm.size);have y0:=(Qo.below b4 Qo.lt).cell0;have y1:=(Qo.below b4 Qo.lt).cell1;have hC:=hid (hL2.out w4 Ki);go_wp2_with fail;refine hC.out.mono ?_;rintro e w5 ⟨v,u,rfl,n1,n2,b5⟩;obtain ⟨x1,d1,rfl,_⟩:=New.ints n1;obtain ⟨x2,d2,rfl,_⟩:=New.ints n2;have B5:=B4.trans (b5.mono B4.size);have q5:=(HK.out w5 B5).2.2.2.2;have j0:=q5.cell0;have j1:=q5.cell1;have f0:=q5.frozen 0;have f1:=q5.frozen 1;have j1':=fun v=>(q5.set0 v).cell1
   have Ro:=fun v=>(q5.set0 v).frozen 1
   have N1:=hid n1;have N2:=hid n2;have BW5:=Ki.trans (b5.mono Ki.size);have hlt:w.heap.size < w4.heap.size:=by have:=B4.size;omega
   clear n1 n2 hC;go_wp2;refine bodyPost_ret (jT (a:=6) (b:=7) (B:=w.heap.size) Tryz.results32 rfl ((q5.set0 _).set1 _)) rfl ?_;refine ⟨_,_,rfl,?_,?_,(BW5.setCell (p:=⟨w.heap.size,0,none⟩) (Nat.le_refl _) _).setCell (p:=⟨w.heap.size,1,none⟩) (Nat.le_refl _) _⟩
   ·exact ((N1.out.pV hlt).pV hlt).mono (by omega)
   ·exact ((N2.out.pV hlt).pV hlt).mono (by omega)
  | false =>
   rw [if_neg (by simp)] at hD;rw [hD.out];clear hD;clear hL1;go_enter Tryz.func32,Tryz.ntmps32;go_wp2_with fail;rw [HW2.out];refine wp_loop_rounds 3 ?_;rw [rounds_succ];obtain ⟨W3,hW3⟩:∃ V,W2.alloc (.cells #[.slice aP P.length cP,.slice aQ Q.length cQ] 88) = V:=⟨_,rfl⟩;have bW3:Below W2.heap.size W2 W3:=by rw [← hW3];exact (Below.refl _ _).alloc (Nat.le_refl _) _
   have Mj:bZ W3 W2.heap.size 88 (.slice aP P.length cP) (.slice aQ Q.length cQ):=by rw [← hW3];exact bZ.new W2 _ _ _
   have Mk:=Mj.cell0;have Ml:=Mj.cell1;rw [hs2] at Mj Mk Ml;have BN:=(Below.refl W2.heap.size W2).trans (bW3.mono (Below.refl W2.heap.size W2).size);have Ew:=hB2.trans (BN.mono hB2.size);have Tw:=hid hW3;clear hW3;go_wp2_with fail;rw [Tw.out];refine (hA1.out W3 Ew).mono ?_;rintro e w3 ⟨rfl,b3⟩;have B3:=BN.trans (b3.mono BN.size);have afq:=Ew.trans (b3.mono Ew.size);obtain ⟨_,_,m2,m3,_⟩:=HK.out w3 B3;clear k0 k1 k2 k3 Mk Ml;go_wp2;rw [rounds_succ];obtain ⟨W4,qd⟩:∃ V,w3.alloc (.cells #[.slice aQ Q.length cQ,.slice aP P.length cP] 88) = V:=⟨_,rfl⟩;have bW4:Below w3.heap.size w3 W4:=by rw [← qd];exact (Below.refl _ _).alloc (Nat.le_refl _) _
   have Qo:bZ W4 w3.heap.size 88 (.slice aQ Q.length cQ) (.slice aP P.length cP):=by rw [← qd];exact bZ.new w3 _ _ _
   have afr:=Qo.cell0;have afs:=Qo.cell1;have Ki:=B3.trans (bW4.mono B3.size);have Mm:=hB2.trans (Ki.mono hB2.size);have YC:=hid qd;clear qd;go_wp2_with fail;rw [YC.out];refine (hA2.out W4 Mm).mono ?_;rintro e w4 ⟨rfl,b4⟩;have B4:=Ki.trans (b4.mono Ki.size);have Ki:=Mm.trans (b4.mono Mm.size);have y0:=(Qo.below b4 Qo.lt).cell0;have y1:=(Qo.below b4 Qo.lt).cell1;have q5:=(HK.out w4 B4).2.2.2.2;have j0:=q5.cell0;have j1:=q5.cell1;have f0:=q5.frozen 0;have f1:=q5.frozen 1;have j1':=fun v=>(q5.set0 v).cell1
   have Ro:=fun v=>(q5.set0 v).frozen 1
   go_wp2;rw [rounds_succ];go_wp2;refine bodyPost_ret (jT (a:=6) (b:=7) (B:=w.heap.size) Tryz.results32 rfl ((q5.set0 _).set1 _)) rfl ?_;exact ⟨_,_,rfl,New.nil _ _,New.nil _ _,(Ki.setCell (p:=⟨w.heap.size,0,none⟩) (Nat.le_refl _) _).setCell (p:=⟨w.heap.size,1,none⟩) (Nat.le_refl _) _⟩
def Tm.jA (n k:Nat):List (Nat × Nat):=(List.range k).flatMap fun j=>[(j,n),(n,j)]
def Tm.ways (n:Nat):List (Nat × Nat):=Tm.jA n n++[(n,n)]
theorem Tm.qK (n k:Nat):Tm.jA n (k+1) = Tm.jA n k++[(k,n),(n,k)]:=by
 unfold Tm.jA;rw [List.range_succ,List.flatMap_append];rfl
theorem Tm.mM (n k:Nat):(Tm.jA n k).length = 2 * k:=by
 induction k with
 | zero=>rfl
 | succ k ih=>rw [Tm.qK,List.length_append,ih];simp;omega
theorem Tm.Ex (n:Nat):(Tm.ways n).length = 2 * n+1:=by unfold Tm.ways;rw [List.length_append,Tm.mM];rfl
theorem Tm.Qp (n k:Nat) (h:k≤n):∀ p∈Tm.jA n k,p.1≤n∧p.2≤n:=by
 intro p hp;unfold Tm.jA at hp;rw [List.mem_flatMap] at hp;obtain ⟨j,hj,hp⟩:=hp;rw [List.mem_range] at hj;simp only [List.mem_cons,List.not_mem_nil,or_false] at hp;rcases hp with rfl | rfl
 ·exact ⟨by show j≤n;omega,Nat.le_refl _⟩
 ·exact ⟨Nat.le_refl _,by show j≤n;omega⟩
theorem Tm.VO (n:Nat):∀ p∈Tm.ways n,p.1≤n∧p.2≤n:=by
 intro p hp;unfold Tm.ways at hp;rcases List.mem_append.1 hp with h | h
 ·exact Tm.Qp n n (Nat.le_refl _) p h
 ·simp only [List.mem_cons,List.not_mem_nil,or_false] at h
  subst h;exact ⟨Nat.le_refl _,Nat.le_refl _⟩
def Tm.jB (rs:aH) (ws:List (Nat × Nat)) (k:Nat) (ps:ah):Prop:=∃ f:Nat→ah,(∀ j,j < k→Tm.dS rs ((ws[j]?.getD (0,0)).1:Int) ((ws[j]?.getD (0,0)).2:Int) 0 (f j))∧ps = ((List.range k).map f).flatten
def Tm.gV (rs:aH) (ws:List (Nat × Nat)) (er:Int) (ps:ah):Prop :=
 (er = 0∧Tm.jB rs ws ws.length ps)∨(er≠0∧ps = []∧∃ k qs,k < ws.length∧(∃ l,Tm.jB rs ws k l)∧Tm.dS rs ((ws[k]?.getD (0,0)).1:Int) ((ws[k]?.getD (0,0)).2:Int) er qs)
theorem Tm.jB.zero (rs:aH) (ws:List (Nat × Nat)):Tm.jB rs ws 0 []:=⟨fun _=>[],fun j hj=>by omega,rfl⟩
theorem Tm.jB.next {rs:aH} {ws:List (Nat × Nat)} {k:Nat} {l ps:ah} (h:Tm.jB rs ws k l) (hs:Tm.dS rs ((ws[k]?.getD (0,0)).1:Int) ((ws[k]?.getD (0,0)).2:Int) 0 ps):Tm.jB rs ws (k+1) (l++ps):=by
 obtain ⟨f,h1,rfl⟩:=h;refine ⟨fun j=>if j = k then ps else f j,fun j hj=>?_,?_⟩
 ·dsimp only
  by_cases e:j = k
  ·subst e;rw [if_pos rfl];exact hs
  ·rw [if_neg e];exact h1 j (by omega)
 ·rw [List.range_succ,List.map_append,List.flatten_append]
  simp only [List.map_cons,List.map_nil,if_pos,List.flatten_cons,List.flatten_nil,List.append_nil];congr 2;refine List.map_congr_left fun j hj=>?_
  rw [List.mem_range] at hj;rw [if_neg (by omega)]
theorem Tm.jB.len {rs:aH} {ws:List (Nat × Nat)} {k:Nat} {l:ah} (h:Tm.jB rs ws k l):l.length≤30 * k:=by
 obtain ⟨f,h1,rfl⟩:=h;induction k with
 | zero=>simp
 | succ k ih =>
  rw [List.range_succ,List.map_append,List.flatten_append,List.length_append];have:=ih fun j hj=>h1 j (by omega)
  have:=(h1 k (by omega)).len.2
  simp only [List.map_cons,List.map_nil,List.flatten_cons,List.flatten_nil,List.append_nil];omega
def BQ (base:Nat) (W:World) (v:Value) (ws:List (Nat × Nat)):Prop:=W.ownsRow base 133 2 v ws.length (ws.flatMap fun p=>[.int .i64 (p.1:Int),.int .i64 (p.2:Int)])
theorem BQ.nil (base:Nat) (W:World):BQ base W (.slice none 0 0) []:=World.ownsRow_nil _ _ _ _
theorem BQ.slice {base:Nat} {W:World} {v:Value} {ws:List (Nat × Nat)} (h:BQ base W v ws):∃ a c,v = .slice a ws.length c:=by
 rcases h.2 with ⟨rfl,h0⟩ | ⟨g,cap,cur,rfl,_⟩
 ·exact ⟨none,0,by rw [h0]⟩
 ·exact ⟨_,_,rfl⟩
theorem Qq (ws:List (Nat × Nat)) (k:Nat) (hk:k < ws.length):(ws.flatMap fun p=>[Value.int .i64 (p.1:Int),.int .i64 (p.2:Int)])[k * 2]? = some (.int .i64 ((ws[k]?.getD (0,0)).1:Int))∧(ws.flatMap fun p=>[Value.int .i64 (p.1:Int),.int .i64 (p.2:Int)])[k * 2+1]? = some (.int .i64 ((ws[k]?.getD (0,0)).2:Int)):=by
 induction ws generalizing k with
 | nil=>simp at hk
 | cons p l ih =>
  rw [List.flatMap_cons];cases k with
  | zero=>exact ⟨rfl,rfl⟩
  | succ k =>
   have:=ih k (by simpa using hk)
   rw [show (k+1) * 2 = k * 2+1+1 by omega];simpa using this
theorem Qr (ws:List (Nat × Nat)):(ws.flatMap fun p=>[Value.int .i64 (p.1:Int),.int .i64 (p.2:Int)]).length = ws.length * 2:=by
 induction ws with
 | nil=>rfl
 | cons p l ih=>rw [List.flatMap_cons,List.length_append,ih];simp;omega
theorem BQ.at {base:Nat} {W:World} {v:Value} {ws:List (Nat × Nat)} (h:BQ base W v ws) (hp:0 < ws.length):∃ g c,v = .slice (some ⟨g,0,none⟩) ws.length c∧g < W.heap.size∧∀ k,k < ws.length→W.cell? ⟨g,k * 2,none⟩ = some (.int .i64 ((ws[k]?.getD (0,0)).1:Int))∧W.cell? ⟨g,k * 2+1,none⟩ = some (.int .i64 ((ws[k]?.getD (0,0)).2:Int)):=by
 have hh:=h;rcases h.2 with ⟨rfl,h0⟩ | ⟨g,cap,cur,rfl,hb,hg,r⟩
 ·omega
 ·refine ⟨g,cap,rfl,(Array.getElem?_eq_some_iff.1 hg).1,fun k hk=>?_⟩
  have cc:=fun j hj=>World.ownsRow.cellAt (show W.ownsRow base 133 2 (.slice (some ⟨g,0,none⟩) ws.length cap) ws.length (ws.flatMap fun p=>[.int .i64 (p.1:Int),.int .i64 (p.2:Int)]) from hh) j hj
  obtain ⟨e1,e2⟩:=Qq ws k hk;exact ⟨by rw [cc _ (by omega),e1],by rw [cc _ (by omega),e2]⟩
theorem Tryz.VP:(Tryz.prog.info? 133).map (fun i=>(i.zero,i.size,i.bytes)) = some (some (.agg #[.int .i64 0,.int .i64 0]),2,16):=by kernel_rfl
theorem Kj {ops:Array Oper} {rest:List Oper} {o:Oper} {a:Act} {Q:Exit→Act→World→Prop} (w:World) (hgd:o.guard = none) (s x:Operand)
 (ho:o.op = .call { callee:=.builtin .append,args:=#[s,x],argTypes:=#[132,132] }) (base:Nat) (v:Value) (ws us:List (Nat × Nat)) (hs:a.eval s = v) (hN:BQ base w v ws)
 (B m:Nat) (hm:m = us.length) (hx:a.eval x = .slice (some ⟨B,0,none⟩) m m) (hB:∀ j u,(us.flatMap fun p=>[Value.int .i64 (p.1:Int),.int .i64 (p.2:Int)])[j]? = some u→w.cell? ⟨B,j,none⟩ = some u) (hlen:ws.length+us.length≤100000) (hbase:base≤w.heap.size)
 (h:∀ v' w',BQ base w' v' (ws++us)→Below base w w'→wpList Tryz.prog ops Q rest (a.put o.dst v') w'):wpList Tryz.prog ops Q (o :: rest) a w:=by
 subst hm;obtain ⟨i0,hi,hz0,hz1,hz2⟩:=info_parts Tryz.VP;refine wpList_append_own w hgd s x 132 ho base 133 i0 (.agg #[.int .i64 0,.int .i64 0]) 2 16 Tryz.underlying132 hi hz0 hz1 hz2 rfl (by decide) v ws.length _ hs hN ⟨B,0,none⟩ us.length us.length (us.flatMap fun p=>[.int .i64 (p.1:Int),.int .i64 (p.2:Int)]) hx (by rw [Qr])
  (by intro j z hj;rw [Go.WideShapes.add_plain,Nat.zero_add];exact hB j z hj)
  (by
    intro u hu;rw [List.mem_flatMap] at hu;obtain ⟨p,_,hu⟩:=hu;simp only [List.mem_cons,List.not_mem_nil,or_false] at hu;rcases hu with rfl | rfl <;> rfl) (by unfold maxLen;omega) (by omega) hbase ?_
 intro v' w' hown hg _;exact h v' w' (by unfold BQ;rw [List.length_append,List.flatMap_append];exact hown) ((Below.refl base w).grown hg hbase fun k e=>(World.ownsRow.lt hN k e).1)
theorem Mo (b:Nat) (rs:aH) (a:Option Addr) (cap:Nat) (w:World) (hbw:b≤w.heap.size) (hR:aJ w.heap.size w a rs) (h0:0 < rs.length) (h8:rs.length≤8) :
 Calls Tryz.prog 62 #[.slice a rs.length cap] w fun e w'=>∃ er ps v,Tm.gV rs (Tm.ways (rs.length - 1)) er ps∧e = .returned (.tuple #[v,.int .i64 er])∧aU false 40 w.heap.size b w' v ps∧Below w.heap.size w w':=by
 obtain ⟨n,hn⟩:∃ n,rs.length = n+1:=⟨rs.length - 1,by omega⟩;have hn7:n≤7:=by omega
 have hni:(rs.length:Int) - 1 = (n:Int):=by omega
 have hn':(n:Int)≤7:=by omega
 rw [show rs.length - 1 = n by omega];have HR:=hid hR;have Hn:=hid hn;have hrl:(rs.length:Int)≤8:=by omega
 have akY:(1:Int)≤(rs.length:Int):=by omega
 clear hR hn;go_enter Tryz.func62,Tryz.ntmps62;go_wp2;go_loopw [5,16] (fun ov v wr=>∃ k:Nat,k≤n∧v = .int .i64 (k:Int)∧Hid (BQ w.heap.size wr ov (Tm.jA n k))∧Below w.heap.size w wr) (fun _ v _=>n - (intOf v).toNat)
 case atStart=>exact ⟨0,Nat.zero_le _,rfl,hid (BQ.nil _ _),Below.refl _ _⟩
 case round =>
  obtain ⟨k,hk,rfl,hN,hB⟩:=hrel;obtain ⟨va,vc,rfl⟩:=hN.out.slice;have hwl:=Tm.mM n k;by_cases hlt:k < n
  ·have hlt':(k:Int) < (n:Int):=by omega
   have hsn:=hid (Tm.qK n k);have hle:(Tm.jA n k).length≤14:=by omega
   clear hwl;generalize Tm.jA n k = ws at *;have hbs:=hB.size;have Na:=hid (show BQ w.heap.size (wr.alloc (.cells #[.int .i64 (k:Int),.int .i64 (n:Int),.int .i64 (n:Int),.int .i64 (k:Int)] 133)) (.slice va ws.length vc) ws from og hN.out fun q hq=>Below.heap_alloc wr _ q (World.ownsRow.lt hN.out q hq).2);have Ba:=hid (hB.alloc hbs (.cells #[.int .i64 (k:Int),.int .i64 (n:Int),.int .i64 (n:Int),.int .i64 (k:Int)] 133));have Hc:Hid (∀ j u,([(k,n),(n,k)].flatMap fun p=>[Value.int .i64 (p.1:Int),.int .i64 (p.2:Int)])[j]? = some u→(wr.alloc (.cells #[.int .i64 (k:Int),.int .i64 (n:Int),.int .i64 (n:Int),.int .i64 (k:Int)] 133)).cell? ⟨wr.heap.size,j,none⟩ = some u):=fun j u hj=>by
    rw [aM (World.alloc_heap_new wr _)];simpa using hj
   go_wp2_with (at_builtin;go_loud (refine Kj _ rfl _ _ rfl w.heap.size _ ws [(k,n),(n,k)] rfl Na.out wr.heap.size 2 rfl rfl Hc.out (by simp;omega) (by simp;omega) ?_);intro v2 w2 eH hB2;obtain ⟨a2,c2,rfl⟩:=eH.slice)
   go_roundw
   case rel=>exact ⟨k+1,by omega,by go_num,by rw [hsn.out];simpa [Hid] using eH,Ba.out.trans hB2⟩
   case measure=>simp [intOf];omega
  ·obtain rfl:k = n:=by omega
   have hwe:Hid (Tm.ways k = Tm.jA k k++[(k,k)]):=rfl;have hle:(Tm.jA k k).length≤14:=by omega
   have YD:=hid (Tm.Ex k);have Xx:=hid (Tm.VO k);clear hwl;generalize Tm.jA k k = ws at *;have hbs:=hB.size;have Na:=hid (show BQ w.heap.size (wr.alloc (.cells #[.int .i64 (k:Int),.int .i64 (k:Int)] 133)) (.slice va ws.length vc) ws from og hN.out fun q hq=>Below.heap_alloc wr _ q (World.ownsRow.lt hN.out q hq).2);have Ba:=hid (hB.alloc hbs (.cells #[.int .i64 (k:Int),.int .i64 (k:Int)] 133));have Hc:Hid (∀ j u,([(k,k)].flatMap fun p=>[Value.int .i64 (p.1:Int),.int .i64 (p.2:Int)])[j]? = some u→(wr.alloc (.cells #[.int .i64 (k:Int),.int .i64 (k:Int)] 133)).cell? ⟨wr.heap.size,j,none⟩ = some u):=fun j u hj=>by
    rw [aM (World.alloc_heap_new wr _)];simpa using hj
   go_wp2_with (at_builtin;go_loud (refine Kj _ rfl _ _ rfl w.heap.size _ ws [(k,k)] rfl Na.out wr.heap.size 1 rfl rfl Hc.out (by simp;omega) (by simp;omega) ?_);intro v2 w2 eH hB2;rw [← hwe.out] at eH;have B2:=Ba.out.trans hB2;obtain ⟨g2,c2,rfl,hg2,hcw⟩:=eH.at (by have:=YD.out;omega);have Hcw:=hid hcw;have YA:=hid eH;clear eH hcw Na Ba Hc hB2)
   have afu:(Tm.ways k).length≤15:=by have:=YD.out;omega
   have acg:((Tm.ways k).length:Int)≤15:=by omega
   obtain ⟨wl,YE⟩:∃ wl,Tm.ways k = wl:=⟨_,rfl⟩;rw [YE] at afu acg Hcw YA Xx YD ⊢;have Hwl:=hid YE;clear YE hwe;go_loopw [7,37] (fun ov v X=>∃ (m:Nat) (l:ah),m≤wl.length∧v = .int .i64 (m:Int)∧Hid (Tm.jB rs wl m l)∧Hid (aU false 40 w2.heap.size b X ov l)∧Below w2.heap.size w2 X) (fun _ v _=>wl.length - (intOf v).toNat)
   case atStart=>exact ⟨0,[],Nat.zero_le _,rfl,hid (Tm.jB.zero _ _),hid (aU.nil _ _ _ _),Below.refl _ _⟩
   case round =>
    obtain ⟨X,rfl⟩:∃ X,X = wr:=⟨wr,rfl⟩;obtain ⟨m,l,hm,rfl,hto,P5,hBx⟩:=hrel;obtain ⟨la,lc,rfl⟩:=P5.out.slice;have hlen:=hto.out.len;have BX:=B2.trans (hBx.mono B2.size);by_cases hmt:m < wl.length
    ·have hmt':(m:Int) < (wl.length:Int):=by omega
     obtain ⟨z0,z1⟩:=Hcw.out m hmt;have y0:=(hBx.cell (p:=⟨g2,m * 2,none⟩) hg2).trans z0;have y1:=(hBx.cell (p:=⟨g2,m * 2+1,none⟩) hg2).trans z1;have hmem:wl[m]?.getD (0,0)∈wl:=by rw [List.getElem?_eq_getElem hmt,Option.getD_some];exact List.getElem_mem hmt
     have hle2:=Xx.out _ hmem;have hnx:=hid (fun ps hs=>hto.out.next (ps:=ps) hs);have hstop:Hid (∀ er qs,er≠0→Tm.dS rs ((wl[m]?.getD (0,0)).1:Int) ((wl[m]?.getD (0,0)).2:Int) er qs→Tm.gV rs wl er []):=fun er qs he hs=>.inr ⟨he,rfl,m,qs,hmt,⟨l,hto.out⟩,hs⟩
     clear z0 z1 hmem hto;generalize (wl[m]?.getD (0,0)).1 = i1 at *;generalize (wl[m]?.getD (0,0)).2 = i2 at *;obtain ⟨W3,hW3⟩:∃ W3,X.alloc (.cells #[.int .i64 (i1:Int),.int .i64 (i2:Int)] 133) = W3:=⟨_,rfl⟩;have hBa:Below X.heap.size X W3:=by rw [← hW3];exact (Below.refl _ _).alloc (Nat.le_refl _) _
     have bx:bZ W3 X.heap.size 133 (.int .i64 (i1:Int)) (.int .i64 (i2:Int)):=by rw [← hW3];exact bZ.new X _ _ _
     have d0:=bx.cell0;have d1:=bx.cell1;have HW3:=hid hW3;have BN:=BX.trans (hBa.mono BX.size);have hC:=hid (S9 rs (i1:Int) (i2:Int) a cap W3 ((HR.out.below BN).mono BN.size));clear hW3 bx;go_wp2_with fail;rw [HW3.out];go_wp2_with fail;refine hC.out.mono ?_;rintro e w4 ⟨er,qs,v4,hs4,rfl,gI,b4⟩;have N4:=hid (fO.x (fl:=false) (eb:=b) gI (.inr (by have:=BN.size;omega)));obtain ⟨a4,c4,rfl⟩:=gI.slice;have B4:=hBx.trans ((hBa.trans (b4.mono hBa.size)).mono hBx.size);have Bw4:=BN.trans (b4.mono BN.size);by_cases he:er = 0
     ·subst he
      have Mq:=hs4.len.2;have Hnx:=hid (hnx.out qs hs4);have M4:=hid ((P5.out.below hBa).below b4);have abP:w2.heap.size≤w4.heap.size:=B4.size;have hsw:w.heap.size≤w2.heap.size:=B2.size;clear hC gI hs4 hnx hstop;go_wp2_with (at_builtin;go_loud (refine ku _ rfl _ _ rfl w2.heap.size b (by omega) _ l rfl M4.out _ qs rfl W3.heap.size N4.out (by omega) abP ?_);intro v5 w5 mV hg5 gq;obtain ⟨a5,c5,rfl⟩:=mV.slice)
      go_roundw
      case rel=>exact ⟨m+1,l++qs,by omega,by go_num,Hnx,by simpa [Hid] using mV,B4.trans gq⟩
      case measure=>simp [intOf];omega
     ·have hne:(er != 0) = true:=by simpa using he
      have Xj:=hid (hstop.out er qs he hs4);clear hC gI hs4 hnx hstop he;go_wp2;go_ret2
      exact ⟨er,[],_,by rw [Hwl.out];exact Xj.out,rfl,aU.nil _ _ _ _,Bw4⟩
    ·obtain rfl:m = wl.length:=by omega
     have Xj:Hid (Tm.gV rs wl 0 l):=.inl ⟨rfl,hto.out⟩;clear hto;go_wp2;go_ret2
     exact ⟨0,l,_,by rw [Hwl.out];exact Xj.out,rfl,P5.out.mono B2.size,BX⟩
def Tm.lN (L:List Int) (r:List Int × List Int):Bool:=decide (0 < (Tm.kM r.1 L).length)
def Tm.taken (L:List Int) (rs:aH):ah:=rs.filter (Tm.lN L)
def Tm.stays (L:List Int) (rs:aH):aH:=rs.filter fun r=>!Tm.lN L r
def Tm.gW (rs:aH) (ps:ah) (L R:List Int) (er:Int) (rs':aH) (ps':ah):Prop :=
 (8 < (Tm.stays L rs).length+1∧er = 2∧rs' = []∧ps' = []) ∨
 ((Tm.stays L rs).length+1≤8∧∃ e q,Tm.gV (Tm.stays L rs++[(L,R)]) (Tm.ways (Tm.stays L rs).length) e q ∧
   ((e≠0∧er = e∧rs' = []∧ps' = [])∨(e = 0∧40 < (ps++Tm.taken L rs++q).length∧er = 2∧rs' = []∧ps' = [])∨(e = 0∧(ps++Tm.taken L rs++q).length≤40∧er = 0∧rs' = Tm.stays L rs++[(L,R)]∧ps' = ps++Tm.taken L rs++q)))
theorem Tm.zu (L:List Int) (rs:aH):(Tm.stays L rs).length≤rs.length:=List.length_filter_le _ _
theorem Tm.zw (L:List Int) (rs:aH):(Tm.taken L rs).length≤rs.length:=List.length_filter_le _ _
theorem Tm.Ey {L:List Int} {rs:aH} {k:Nat} (hk:k < rs.length):Tm.stays L (rs.take (k+1)) = Tm.stays L (rs.take k)++(if Tm.lN L ((rs[k]?.getD ([],[])).1,(rs[k]?.getD ([],[])).2) = true then [] else [((rs[k]?.getD ([],[])).1,(rs[k]?.getD ([],[])).2)]):=by
 unfold Tm.stays;rw [o9 hk,List.filter_append];congr 1;by_cases h:Tm.lN L ((rs[k]?.getD ([],[])).1,(rs[k]?.getD ([],[])).2) = true
 ·rw [if_pos h];simp [h]
 ·rw [if_neg h];simp [h]
theorem Tm.Ez {L:List Int} {rs:aH} {k:Nat} (hk:k < rs.length):Tm.taken L (rs.take (k+1)) = Tm.taken L (rs.take k)++(if Tm.lN L ((rs[k]?.getD ([],[])).1,(rs[k]?.getD ([],[])).2) = true then [((rs[k]?.getD ([],[])).1,(rs[k]?.getD ([],[])).2)] else []):=by
 unfold Tm.taken;rw [o9 hk,List.filter_append];congr 1;by_cases h:Tm.lN L ((rs[k]?.getD ([],[])).1,(rs[k]?.getD ([],[])).2) = true
 ·rw [if_pos h];simp [h]
 ·rw [if_neg h];simp [h]
structure nD (fl:Bool) (b n:Nat) (w:World) (lv:Value) (rs:aH) (aL aR:Option Addr) (cL cR:Nat) (L R:List Int) (ev Tx:Value) (es ss:ah) (W:World):Prop where
 ne:aU fl 40 b b W ev es
 ns:aU fl 54 (n+1) b W Tx ss
 nl:aU fl 54 b b W lv rs
 bx:bZ W n 54 (.slice aL L.length cL) (.slice aR R.length cR)
 iL:bX fl b W aL L
 iR:bX fl b W aR R
 kp:Below b w W
theorem nD.below {fl:Bool} {b n:Nat} {w:World} {lv:Value} {rs:aH} {aL aR:Option Addr} {cL cR:Nat} {L R:List Int} {ev Tx:Value} {es ss:ah} {W W':World} (h:nD fl b n w lv rs aL aR cL cR L R ev Tx es ss W) (hb:b≤w.heap.size) (hB:Below W.heap.size W W'):nD fl b n w lv rs aL aR cL cR L R ev Tx es ss W' :=
 ⟨h.ne.below hB,h.ns.below hB,h.nl.below hB,h.bx.below hB h.bx.lt,h.iL.below hB,h.iR.below hB,h.kp.trans (hB.mono (Nat.le_trans hb h.kp.size))⟩
theorem nD.pair {fl:Bool} {b n:Nat} {w:World} {lv:Value} {rs:aH} {aL aR:Option Addr} {cL cR:Nat} {L R:List Int} {ev ev' Tx:Value} {es es' ss:ah} {W W':World} (h:nD fl b n w lv rs aL aR cL cR L R ev Tx es ss W) (hg:W.grownBy W' ev.ownBlock) (hB:Below b W W') (hN:aU fl 40 b b W' ev' es'):nD fl b n w lv rs aL aR cL cR L R ev' Tx es' ss W':=by
 have hr:∀ k,ev.ownBlock = some k→b≤k∧∃ cs,W.heap[k]? = some (.cells cs 40 (0,0)):=fun k hk=>⟨(h.ne.block hk).1,(h.ne.block hk).2.2⟩
 have hx:∀ {v:Value} {sb:Nat} {ps:ah},aU fl 54 sb b W v ps→aU fl 54 sb b W' v ps:=fun hv=>hv.grown (e':=40) (by decide) hg fun k hk=>⟨(hr k hk).1,(hr k hk).2,fun e1=>by
  obtain ⟨_,_,cs,hc⟩:=hv.block e1;obtain ⟨cs',hc'⟩:=(hr k hk).2;rw [hc] at hc';simp only [Option.some.injEq,Obj.cells.injEq] at hc';exact absurd hc'.2.1 (by decide)⟩
 refine ⟨hN,hx h.ns,hx h.nl,h.bx.kept hg fun e1=>?_,h.iL.grown (by decide) hg hr,h.iR.grown (by decide) hg hr,h.kp.trans hB⟩;obtain ⟨_,cs,hc⟩:=hr n e1.symm;have hb:=h.bx;unfold bZ at hb;rw [hb] at hc;simp only [Option.some.injEq,Obj.cells.injEq] at hc;exact absurd hc.2.1 (by decide)
theorem nD.rule {fl:Bool} {b n:Nat} {w:World} {lv:Value} {rs:aH} {aL aR:Option Addr} {cL cR:Nat} {L R:List Int} {ev Tx sv2:Value} {es ss ss':ah} {W W':World} (h:nD fl b n w lv rs aL aR cL cR L R ev Tx es ss W) (hbn:b≤n) (hl:∀ k,lv.ownBlock = some k→k < n) (hg:W.grownBy W' Tx.ownBlock) (hB:Below (n+1) W W') (hN:aU fl 54 (n+1) b W' sv2 ss'):nD fl b n w lv rs aL aR cL cR L R ev sv2 es ss' W':=by
 have hr:∀ k,Tx.ownBlock = some k→b≤k∧∃ cs,W.heap[k]? = some (.cells cs 54 (0,0)):=fun k hk=>⟨by have:=(h.ns.block hk).1;omega,(h.ns.block hk).2.2⟩
 refine ⟨h.ne.grown (e':=54) (by decide) hg fun k hk=>⟨(hr k hk).1,(hr k hk).2,fun e1=>?_⟩,hN,h.nl.grown (e':=54) (by decide) hg fun k hk=>⟨(hr k hk).1,(hr k hk).2,fun e1=>?_⟩,h.bx.kept hg fun e1=>?_,h.iL.grown (by decide) hg hr,h.iR.grown (by decide) hg hr,h.kp.trans (hB.mono (by omega))⟩
 ·obtain ⟨_,_,cs,hc⟩:=h.ne.block e1
  obtain ⟨cs',hc'⟩:=(hr k hk).2;rw [hc] at hc';simp only [Option.some.injEq,Obj.cells.injEq] at hc';exact absurd hc'.2.1 (by decide)
 ·have:=hl k e1
  have:=(h.ns.block hk).1
  omega
 ·have:=(h.ns.block e1.symm).1
  omega
theorem Kl (b:Nat) (rs:aH) (ps:ah) (L R:List Int) (lv ev:Value) (aL aR:Option Addr) (cL cR:Nat) (w:World) (hbw:b≤w.heap.size) (hl:aU false 54 b b w lv rs) (he:aU false 40 b b w ev ps) (hL:bX false b w aL L) (hR:bX false b w aR R) (eL:Tm.err L = 0) (c1:L.length≤cL) (c2:cL≤maxLen) (c3:R.length≤cR) (c4:cR≤maxLen)
  (hrs:∀ k,k < rs.length→Tm.err (rs[k]?.getD ([],[])).1 = 0) (h8:rs.length≤8) (Di:ps.length≤40) :
  Calls Tryz.prog 33 #[lv,ev,.agg #[.slice aL L.length cL,.slice aR R.length cR]] w fun e w'=>∃ er rs' ps' v u,Tm.gW rs ps L R er rs' ps'∧e = .returned (.tuple #[v,u,.int .i64 er])∧aU false 54 b b w' v rs'∧aU false 40 b b w' u ps'∧Below b w w':=by
 obtain ⟨W1,hW1⟩:∃ W1,w.alloc (.cells #[.slice aL L.length cL,.slice aR R.length cR] 54) = W1:=⟨_,rfl⟩;have hB1:Below w.heap.size w W1:=by rw [← hW1];exact (Below.refl _ _).alloc (Nat.le_refl _) _
 have bx:bZ W1 w.heap.size 54 (.slice aL L.length cL) (.slice aR R.length cR):=by rw [← hW1];exact bZ.new w _ _ _
 have I0:Hid (nD false b w.heap.size w lv rs aL aR cL cR L R ev (.slice none 0 0) (ps++Tm.taken L (rs.take 0)) (Tm.stays L (rs.take 0)) W1):=⟨by simpa [Tm.taken] using he.below hB1,by simpa [Tm.stays] using aU.nil _ _ _ _,hl.below hB1,bx,hL.below hB1,hR.below hB1,hB1.mono hbw⟩;have hll:=hid (fun k (hk:lv.ownBlock = some k)=>(hl.block hk).2.1);have Hrs:=hid hrs;have HW1:=hid hW1;have hel:(ps++Tm.taken L (rs.take 0)).length≤1000:=by simp [Tm.taken];omega
 obtain ⟨al,cl,rfl⟩:=hl.slice;obtain ⟨ae,ce,YF,rfl,hev⟩:∃ ae ce YF,ev = .slice ae YF ce∧YF = ps.length:=by
  obtain ⟨a,c,h⟩:=he.slice;exact ⟨a,c,_,h,rfl⟩
 have h8':(rs.length:Int)≤8:=by omega
 clear hl he hL hR hrs hW1 bx;go_enter Tryz.func33,Tryz.ntmps33;go_wp2_with fail;rw [HW1.out];go_loopw [1,9,18] (fun xe xs v wr=>∃ k:Nat,k≤rs.length∧v = .int .i64 (k:Int)∧Hid (nD false b w.heap.size w (.slice al rs.length cl) rs aL aR cL cR L R xe xs (ps++Tm.taken L (rs.take k)) (Tm.stays L (rs.take k)) wr)) (fun _ _ v _=>rs.length - (intOf v).toNat)
 case atStart=>exact ⟨0,Nat.zero_le _,rfl,I0⟩
 case round =>
  obtain ⟨k,hk,rfl,hI⟩:=hrel;obtain ⟨ya,yc,rfl⟩:=hI.out.ne.slice;obtain ⟨za,zc,rfl⟩:=hI.out.ns.slice;have hnw:w.heap.size+1≤wr.heap.size:=hI.out.bx.lt;by_cases hlt:k < rs.length
  ·have hlt':(k:Int) < (rs.length:Int):=by omega
   obtain ⟨g,cp,aP,cP,aQ,cQ,el,hg,g1,g2,g3,g4,g5,g6,g7,g8⟩:=hI.out.nl.elem hlt;simp only [Value.slice.injEq,true_and] at el;obtain ⟨rfl,rfl⟩:=el;rw [Nat.zero_add] at g1 g2;have eP:=Hrs.out k hlt;have hs1:=hid (Tm.Ey (L:=L) hlt);have hs2:=hid (show ps++Tm.taken L (rs.take (k+1)) = (ps++Tm.taken L (rs.take k))++(if Tm.lN L ((rs[k]?.getD ([],[])).1,(rs[k]?.getD ([],[])).2) = true then [((rs[k]?.getD ([],[])).1,(rs[k]?.getD ([],[])).2)] else []) by rw [Tm.Ez (L:=L) hlt,List.append_assoc]);have hl1:(ps++Tm.taken L (rs.take k)).length≤48:=by have:=Tm.zw L (rs.take k);rw [List.length_append];rw [List.length_take] at this;omega
   have hl2:(Tm.stays L (rs.take k)).length≤8:=by have:=Tm.zu L (rs.take k);rw [List.length_take] at this;omega
   have hov:Hid (Tm.lN L ((rs[k]?.getD ([],[])).1,(rs[k]?.getD ([],[])).2) = decide (0 < (Tm.kM (rs[k]?.getD ([],[])).1 L).length)):=rfl;generalize (rs[k]?.getD ([],[])).1 = P at *;generalize (rs[k]?.getD ([],[])).2 = Q at *;generalize ps++Tm.taken L (rs.take k) = pt at *;generalize Tm.stays L (rs.take k) = sk at *;generalize Tm.lN L (P,Q) = tb at *;obtain ⟨W2,hW2⟩:∃ W2,wr.alloc (.cells #[.slice aP P.length cP,.slice aQ Q.length cQ] 54) = W2:=⟨_,rfl⟩;have hBa:Below wr.heap.size wr W2:=by rw [← hW2];exact (Below.refl _ _).alloc (Nat.le_refl _) _
   have by2:bZ W2 wr.heap.size 54 (.slice aP P.length cP) (.slice aQ Q.length cQ):=by rw [← hW2];exact bZ.new wr _ _ _
   have HW2:=hid hW2;have I2:=hid (hI.out.below hbw hBa);have y0:=by2.cell0;have y1:=I2.out.bx.cell0;have y0a:=y0;have y1a:=y1;rw [← hW2] at y0a y1a;have hC:=hid (Ty P L aP aL cP cL W2 (g3.below hBa).ints I2.out.iL.ints ⟨g5,g6,si g3.ints (Tm.bM eP)⟩ ⟨c1,c2,si hI.out.iL.ints (Tm.bM eL)⟩);generalize Tm.kM P L = ov at *;clear hW2 hI;go_wp2_with fail;rw [HW2.out];go_wp2_with fail;refine hC.out.mono ?_;rintro e w3 ⟨v3,rfl,iD,b3⟩;obtain ⟨x3,d3,rfl,_⟩:=New.ints iD;have I3:=hid (I2.out.below hbw b3);have by3:=by2.below b3 by2.lt;have t0:=by3.cell0;have t1:=by3.cell1;have iP:=hid ((g3.below hBa).below b3);have iQ:=hid ((g4.below hBa).below b3);have Ho:Hid (ov.length = ov.length):=rfl;clear hC iD I2 y0 y1 y0a y1a g1 g2 g3 g4;have afx:w.heap.size+1≤w3.heap.size:=I3.out.bx.lt;have ak1:b≤w3.heap.size:=by omega
   by_cases htk:0 < ov.length
   ·have YG:(0:Int) < (ov.length:Int):=by omega
    have htb:Hid (tb = true):=by show tb = true;rw [hov.out];exact decide_eq_true htk
    rw [htb.out,if_pos rfl] at hs1 hs2;have I4:=hid (I3.out.below hbw ((Below.refl w3.heap.size w3).alloc (Nat.le_refl _) (.cells #[.slice aP P.length cP,.slice aQ Q.length cQ] 40)));have hA:=(Below.refl w3.heap.size w3).alloc (Nat.le_refl _) (.cells #[.slice aP P.length cP,.slice aQ Q.length cQ] 40);have blk:=World.alloc_heap_new w3 (.cells #[.slice aP P.length cP,.slice aQ Q.length cQ] 40);have HB0:=hid ((aM blk 0).trans rfl:(w3.alloc (.cells #[.slice aP P.length cP,.slice aQ Q.length cQ] 40)).cell? ⟨w3.heap.size,0,none⟩ = some (.slice aP P.length cP));have HB1:=hid ((aM blk 1).trans rfl:(w3.alloc (.cells #[.slice aP P.length cP,.slice aQ Q.length cQ] 40)).cell? ⟨w3.heap.size,1,none⟩ = some (.slice aQ Q.length cQ));have YH:=hid (iP.out.below hA);have YI:=hid (iQ.out.below hA);clear htk blk hA;go_wp2_with (at_builtin;go_loud (refine Ta _ rfl _ _ rfl b b (Nat.le_refl _) _ pt rfl I4.out.ne w3.heap.size aP aQ P Q cP cQ rfl HB0.out HB1.out YH.out YI.out g5 g6 g7 g8 (by omega) (by simp;omega) ?_);intro Xy Xz w5 mV hg5 gq)
    have I5:=hid (I4.out.pair hg5 gq mV);clear mV hg5 gq I4 I3;go_roundw
    case rel=>exact ⟨k+1,by omega,by go_num,by rw [hs1.out,hs2.out,List.append_nil];simpa [Hid] using I5⟩
    case measure=>simp [intOf];omega
   ·have YG:¬ (0:Int) < (ov.length:Int):=by omega
    have htb:Hid (tb = false):=by show tb = false;rw [hov.out];exact decide_eq_false htk
    rw [htb.out,if_neg (by simp)] at hs1 hs2;have I4:=hid (I3.out.below hbw ((Below.refl w3.heap.size w3).alloc (Nat.le_refl _) (.cells #[.slice aP P.length cP,.slice aQ Q.length cQ] 54)));have hA:=(Below.refl w3.heap.size w3).alloc (Nat.le_refl _) (.cells #[.slice aP P.length cP,.slice aQ Q.length cQ] 54);have blk:=World.alloc_heap_new w3 (.cells #[.slice aP P.length cP,.slice aQ Q.length cQ] 54);have HB0:=hid ((aM blk 0).trans rfl:(w3.alloc (.cells #[.slice aP P.length cP,.slice aQ Q.length cQ] 54)).cell? ⟨w3.heap.size,0,none⟩ = some (.slice aP P.length cP));have HB1:=hid ((aM blk 1).trans rfl:(w3.alloc (.cells #[.slice aP P.length cP,.slice aQ Q.length cQ] 54)).cell? ⟨w3.heap.size,1,none⟩ = some (.slice aQ Q.length cQ));have YH:=hid (iP.out.below hA);have YI:=hid (iQ.out.below hA);clear htk blk hA;go_wp2_with (at_builtin;go_loud (refine oh _ rfl _ _ rfl (w.heap.size+1) b (by omega) _ sk rfl I4.out.ns w3.heap.size aP aQ P Q cP cQ rfl HB0.out HB1.out YH.out YI.out g5 g6 g7 g8 (by omega) (by simp;omega) ?_);intro Xy Xz w5 mV hg5 gq)
    have I5:=hid (I4.out.rule hbw hll.out hg5 gq mV);clear mV hg5 gq I4 I3;go_roundw
    case rel=>exact ⟨k+1,by omega,by go_num,by rw [hs1.out,hs2.out,List.append_nil];simpa [Hid] using I5⟩
    case measure=>simp [intOf];omega
  ·obtain rfl:k = rs.length:=by omega
   rw [List.take_length] at hI;have hS:Hid (∀ er rs' ps',((8 < (Tm.stays L rs).length+1∧er = 2∧rs' = []∧ps' = []) ∨
 ((Tm.stays L rs).length+1≤8∧∃ e q,Tm.gV (Tm.stays L rs++[(L,R)]) (Tm.ways (Tm.stays L rs).length) e q ∧
  ((e≠0∧er = e∧rs' = []∧ps' = [])∨(e = 0∧40 < (ps++Tm.taken L rs++q).length∧er = 2∧rs' = []∧ps' = [])∨(e = 0∧(ps++Tm.taken L rs++q).length≤40∧er = 0∧rs' = Tm.stays L rs++[(L,R)]∧ps' = ps++Tm.taken L rs++q))))→Tm.gW rs ps L R er rs' ps'):=fun er rs' ps' h=>h
   have hl1:(ps++Tm.taken L rs).length≤48:=by have:=Tm.zw L rs;rw [List.length_append];omega
   have hl2:(Tm.stays L rs).length≤8:=by have:=Tm.zu L rs;omega
   rw [List.take_length];generalize ps++Tm.taken L rs = pt at *;generalize Tm.stays L rs = sk at *;have y0:=hI.out.bx.cell0;have y1:=hI.out.bx.cell1;have hA:=(Below.refl wr.heap.size wr).alloc (Nat.le_refl _) (.cells #[.slice aL L.length cL,.slice aR R.length cR] 54);have I4:=hid (hI.out.below hbw hA);have blk:=World.alloc_heap_new wr (.cells #[.slice aL L.length cL,.slice aR R.length cR] 54);have HB0:=hid ((aM blk 0).trans rfl:(wr.alloc (.cells #[.slice aL L.length cL,.slice aR R.length cR] 54)).cell? ⟨wr.heap.size,0,none⟩ = some (.slice aL L.length cL));have HB1:=hid ((aM blk 1).trans rfl:(wr.alloc (.cells #[.slice aL L.length cL,.slice aR R.length cR] 54)).cell? ⟨wr.heap.size,1,none⟩ = some (.slice aR R.length cR));clear blk hA hI;by_cases h9:8 < sk.length+1
   ·have h9':(8:Int) < (sk.length:Int)+1:=by omega
    go_wp2_with (at_builtin;go_loud (refine oh _ rfl _ _ rfl (w.heap.size+1) b (by omega) _ sk rfl I4.out.ns wr.heap.size aL aR L R cL cR rfl HB0.out HB1.out I4.out.iL I4.out.iR c1 c2 c3 c4 (by omega) (by simp;omega) ?_);intro Xy Xz w5 mV hg5 gq)
    have I5:=hid (I4.out.rule hbw hll.out hg5 gq mV);go_ret3
    exact ⟨2,[],[],_,_,hS.out _ _ _ (.inl ⟨h9,rfl,rfl,rfl⟩),rfl,aU.nil _ _ _ _,aU.nil _ _ _ _,I5.out.kp⟩
   ·have h9':¬ (8:Int) < (sk.length:Int)+1:=by omega
    go_wp2_with (first
     | (at_builtin;go_loud (refine oh _ rfl _ _ rfl (w.heap.size+1) b (by omega) _ sk rfl I4.out.ns wr.heap.size aL aR L R cL cR rfl HB0.out HB1.out I4.out.iL I4.out.iR c1 c2 c3 c4 (by omega) (by simp;omega) ?_);intro g5 c5 w5 mV hg5 gq;have I5:=hid (I4.out.rule hbw hll.out hg5 gq mV);clear mV hg5 gq)
     | (go_at_call 62;fail))
    have hb5:b≤w5.heap.size:=Nat.le_trans hbw I5.out.kp.size;obtain ⟨a6,c6,e6,hR6,_⟩:=I5.out.ns.at;have hC:=Mo b (sk++[(L,R)]) a6 c6 w5 hb5 hR6 (by simp) (by simp;omega);rw [← e6,show (sk++[(L,R)]).length - 1 = sk.length by simp] at hC;have HC:=hid hC;clear hC e6 hR6;refine HC.out.mono ?_;rintro e w6 ⟨er,q,v6,hs6,rfl,IM,b6⟩;have I6:=hid (I5.out.below hbw b6);obtain ⟨a7,c7,rfl⟩:=IM.slice;have HN6:=hid IM;clear HC IM I5 I4;by_cases he:er = 0
    ·subst he
     have Mq:q.length≤1000:=by
      rcases hs6 with ⟨_,h⟩ | ⟨h,_⟩
      ·have h1:=h.len;have h2:=Tm.Ex sk.length;omega
      ·exact absurd rfl h
     have Hs6:=hid hs6;have hb6:b≤w6.heap.size:=Nat.le_trans hbw I6.out.kp.size;clear hs6;by_cases Mr:40 < (pt++q).length
     ·have YJ:(40:Int) < (pt.length:Int)+(q.length:Int):=by rw [List.length_append] at Mr;omega
      have Hs:=hid (hS.out 2 [] [] (.inr ⟨by omega,0,q,Hs6.out,.inr (.inl ⟨rfl,Mr,rfl,rfl,rfl⟩)⟩));clear Mr hS;go_wp2_with (at_builtin;go_loud (refine ku _ rfl _ _ rfl b b (Nat.le_refl _) _ pt rfl I6.out.ne _ q rfl w5.heap.size HN6.out (by omega) hb6 ?_);intro v8 w8 yD Rv rJ;have I8:=hid (I6.out.pair Rv rJ yD);obtain ⟨a8,c8,e8⟩:=yD.slice;rw [List.length_append] at e8;subst e8;clear yD Rv rJ)
      go_ret3
      exact ⟨2,[],[],_,_,Hs.out,rfl,aU.nil _ _ _ _,aU.nil _ _ _ _,I8.out.kp⟩
     ·have YJ:¬ (40:Int) < (pt.length:Int)+(q.length:Int):=by rw [List.length_append] at Mr;omega
      have Hs:=hid (hS.out 0 (sk++[(L,R)]) (pt++q) (.inr ⟨by omega,0,q,Hs6.out,.inr (.inr ⟨rfl,by omega,rfl,rfl,rfl⟩)⟩));clear Mr hS;go_wp2_with (at_builtin;go_loud (refine ku _ rfl _ _ rfl b b (Nat.le_refl _) _ pt rfl I6.out.ne _ q rfl w5.heap.size HN6.out (by omega) hb6 ?_);intro v8 w8 yD Rv rJ;have I8:=hid (I6.out.pair Rv rJ yD);obtain ⟨a8,c8,e8⟩:=yD.slice;rw [List.length_append] at e8;subst e8;clear yD Rv rJ)
      go_ret3
      exact ⟨0,_,_,_,_,Hs.out,rfl,I8.out.ns.mono (by omega),I8.out.ne,I8.out.kp⟩
    ·have hne:(er != 0) = true:=by simpa using he
     have Hs:=hid (hS.out er [] [] (.inr ⟨by omega,er,q,hs6,.inl ⟨he,rfl,rfl,rfl⟩⟩));clear he hS hs6;go_wp2;go_ret3
     exact ⟨er,[],[],_,_,Hs.out,rfl,aU.nil _ _ _ _,aU.nil _ _ _ _,I6.out.kp⟩
section
section
variable {L1 R1 L2 R2:List Int} {pass:Nat→Bool}
theorem Tm.jP.at {n:Nat} {l:ah} (h:Tm.jP L1 R1 L2 R2 pass n l):∀ m,m < n→∃ l',Tm.jP L1 R1 L2 R2 pass m l'∧(pass m = true∨(∃ val,Tm.dQ [(Tm.part L1 m,L2)] 0 false val)∨(∃ val,Tm.dQ [(Tm.part L1 m,L2)] 0 true val∧Tm.fD val L1 R1 (m:Int) R2 = 0)):=by
 induction h with
 | zero=>intro m hm;omega
 | @pass k l h hp ih =>
  intro m hm;by_cases e:m = k
  ·subst e;exact ⟨l,h,.inl hp⟩
  ·exact ih m (by omega)
 | @no k l val h hp hs ih =>
  intro m hm;by_cases e:m = k
  ·subst e;exact ⟨l,h,.inr (.inl ⟨val,hs⟩)⟩
  ·exact ih m (by omega)
 | @yes k l val h hp hs he ih =>
  intro m hm;by_cases e:m = k
  ·subst e;exact ⟨l,h,.inr (.inr ⟨val,hs,he⟩)⟩
  ·exact ih m (by omega)
theorem Tm.jP.one {n:Nat} {l l':ah} (h:Tm.jP L1 R1 L2 R2 pass n l) (h':Tm.jP L1 R1 L2 R2 pass n l'):l = l':=by
 induction h generalizing l' with
 | zero=>cases h';rfl
 | pass h hp ih =>
  cases h' with
  | pass h2 _=>exact ih h2
  | no _ hq _=>rw [hp] at hq;cases hq
  | yes _ hq _ _=>rw [hp] at hq;cases hq
 | no h hp hs ih =>
  cases h' with
  | pass _ hq=>rw [hp] at hq;cases hq
  | no h2 _ _=>exact ih h2
  | yes _ _ hs2 _=>have:=(hs.one hs2).2.1;cases this
 | yes h hp hs he ih =>
  cases h' with
  | pass _ hq=>rw [hp] at hq;cases hq
  | no _ _ hs2=>have:=(hs.one hs2).2.1;cases this
  | yes h2 _ hs2 _ =>
   obtain ⟨_,_,rfl⟩:=hs.one hs2;rw [ih h2]
theorem Tm.iO.right {l ps:ah} {e:Int} (h:Tm.jP L1 R1 L2 R2 pass L1.length l) (h':Tm.iO L1 R1 L2 R2 pass e ps):e = 0∧ps = l:=by
 rcases h' with ⟨rfl,h2⟩ | ⟨⟨h0,m,l',hm,hl',hp,hs⟩,rfl⟩
 ·exact ⟨rfl,h2.one h⟩
 ·obtain ⟨_,_,q | ⟨val,q⟩ | ⟨val,q,q'⟩⟩:=h.at m hm
  ·rw [hp] at q;cases q
  ·rcases hs with ⟨is,v,hs⟩ | ⟨v,hs,_⟩
   ·exact absurd (q.one hs).1.symm h0
   ·have:=(q.one hs).2.1;cases this
  ·rcases hs with ⟨is,v,hs⟩ | ⟨v,hs,he⟩
   ·exact absurd (q.one hs).1.symm h0
   ·obtain ⟨_,_,rfl⟩:=q.one hs
    rw [q'] at he;exact absurd he.symm h0
end
end
theorem Tm.n1:Tm.form lM [4,4,0,1,0] = ([4,1,0],2,0):=by decide +kernel
theorem Tm.n2:Tm.IA lM [4,1,0] = true:=by decide +kernel
theorem Tm.n3:Tm.bn lM [4,1,0] = 0:=by decide +kernel
theorem Tm.n4:Tm.form [([2,-1],[2,-1])] [4,-1,2,0] = ([],0,2):=by decide +kernel
theorem Tm.n5:Tm.form [([2,-1],[2,2,-1])] [4,-1,2,0] = ([],0,2):=by decide +kernel
theorem YK (t u:List Int) (n:Nat) (k:Nat) (a:Option Addr) (w:World) (hn:n = t.length) (hl:t.length≤1000) (hI:aJ w.heap.size w a lM) (h:Tm.form lM t = (u,k,0)) :
 Calls Tryz.prog 17 #[.slice a 3 3,.slice (some ⟨w.heap.size,0,none⟩) n n] (w.alloc (.cells (t.map (Value.int .i64)).toArray 3)) fun e w'=>∃ v,e = .returned (.tuple #[v,.int .i64 (k:Int),.int .i64 0])∧New w.heap.size w' v u∧Below w.heap.size w w':=by
 subst hn;have hB:Below w.heap.size w (w.alloc (.cells (t.map (Value.int .i64)).toArray 3)):=(Below.refl _ _).alloc (Nat.le_refl _) _;refine (om lM t a _ 3 t.length _ ((hI.below hB).mono hB.size) (fH w t _ (by simp)) (Nat.le_refl _) (by unfold maxLen;omega)).mono ?_;rintro e w' ⟨v,rfl,hN,hB'⟩;rw [h] at hN;exact ⟨v,by rw [h],hN.mono hB.size,hB.trans (hB'.mono hB.size)⟩
theorem afz (t:List Int) (n:Nat) (a:Option Addr) (w:World) (hn:n = t.length) (hl:t.length≤1000) (hI:aJ w.heap.size w a lM) (h1:Tm.IA lM t = true) (h2:Tm.bn lM t = 0) :
 Calls Tryz.prog 45 #[.slice a 3 3,.slice (some ⟨w.heap.size,0,none⟩) n n] (w.alloc (.cells (t.map (Value.int .i64)).toArray 3)) fun e w'=>e = .returned (.tuple #[.bool true,.int .i64 0])∧Below w.heap.size w w':=by
 subst hn;have hB:Below w.heap.size w (w.alloc (.cells (t.map (Value.int .i64)).toArray 3)):=(Below.refl _ _).alloc (Nat.le_refl _) _;refine (Mf lM t a _ 3 t.length _ ((hI.below hB).mono hB.size) (fH w t _ (by simp)) (Nat.le_refl _) (by unfold maxLen;omega)).mono ?_;rintro e w' ⟨rfl,hB'⟩;exact ⟨by rw [h1,h2],hB.trans (hB'.mono hB.size)⟩
theorem Tz (rs:aH) (n:Nat) (a b:Option Addr) (w:World) (hn:n = rs.length) (hI:aJ w.heap.size w a rs) (hT:Ints w.heap.size w b [4,-1,2,0]) (h:Tm.form rs [4,-1,2,0] = ([],0,2)) :
 Calls Tryz.prog 17 #[.slice a n n,.slice b 4 4] w fun e w'=>∃ v,e = .returned (.tuple #[v,.int .i64 0,.int .i64 2])∧New w.heap.size w' v []∧Below w.heap.size w w':=by
 subst hn;refine (om rs [4,-1,2,0] a b rs.length 4 w hI hT (by simp) (by unfold maxLen;omega)).mono ?_;rintro e w' ⟨v,rfl,hN,hB'⟩;rw [h] at hN;exact ⟨v,by rw [h];rfl,hN,hB'⟩
end Go.Proofs.YtglohanbpjaieaaGreat
