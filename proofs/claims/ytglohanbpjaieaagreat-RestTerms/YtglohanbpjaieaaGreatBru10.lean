/-
  Parts of the proof: Ref4.
-/
import Derived.Test.YtglohanbpjaieaaGreatBru9
namespace Go.Proofs.YtglohanbpjaieaaGreat
open Go.Proofs Go.RowKit Go.Shelf Go.Maps
section
attribute [local go_sem ↓] Go.wp_at_zero Go.wp_at_succ
def Vm (rk za zb:List Int) (w:World) (v:Value) (wr:World):Prop :=
 (∃ i:Nat,i < za.length∧v = .int .i64 (i:Int)∧yJ wr w.heap.size (Rj rk za zb (i+1))∧Below w.heap.size w wr)∨(v = .int .i64 (-1)∧yJ wr w.heap.size (Rj rk za zb 0)∧Below w.heap.size w wr)
def DC (rk za zb:List Int) (w:World) (i:Nat) (v:Value) (wr:World):Prop :=
 (∃ j:Nat,j < zb.length∧v = .int .i64 (j:Int)∧yJ wr w.heap.size (Cj rk za zb i (j+1))∧Below w.heap.size w wr)∨(v = .int .i64 (-1)∧yJ wr w.heap.size (Cj rk za zb i 0)∧Below w.heap.size w wr)
theorem Vm.next {rk za zb:List Int} {w wr:World} {i:Nat} (hi:i < za.length) (hT:yJ wr w.heap.size (Rj rk za zb i)) (hB:Below w.heap.size w wr) {x:Int} (hx:x = (i:Int) - 1):Vm rk za zb w (.int .i64 x) wr:=by
 subst hx;cases i with
 | zero=>exact .inr ⟨rfl,hT,hB⟩
 | succ i=>exact .inl ⟨i,by omega,by congr 1;omega,hT,hB⟩
theorem DC.next {rk za zb:List Int} {w wr:World} {i j:Nat} (hj:j < zb.length) (hT:yJ wr w.heap.size (Cj rk za zb i j)) (hB:Below w.heap.size w wr) {x:Int} (hx:x = (j:Int) - 1):DC rk za zb w i (.int .i64 x) wr:=by
 subst hx;cases j with
 | zero=>exact .inr ⟨rfl,hT,hB⟩
 | succ j=>exact .inl ⟨j,by omega,by congr 1;omega,hT,hB⟩
theorem New.abo {base m:Nat} {W W':World} {v:Value} {zs:List Int} (h:New base W v zs) (hK:aW W.heap.size m W W') (hm:m < base):New base W' v zs:=by
 refine ⟨h.1,?_⟩;rcases h.2 with hn | ⟨g,cap,cur,hv,hb,hg,r⟩
 ·exact .inl hn
 ·exact .inr ⟨g,cap,cur,hv,hb,(hK.block g (Array.getElem?_eq_some_iff.1 hg).1 (by omega)).trans hg,r⟩
theorem PN {n B o:Nat} {w X:World} (h:aW n B w X) (v:Value):aW n B w (X.setCell ⟨B,o,none⟩ v) :=
 ⟨h.os,h.tape,h.output,Nat.le_trans h.size (KeepsWalks.setCell X _ v).size,fun k hk hm=>(Below.heap_setCell X ⟨B,o,none⟩ v k hm).trans (h.block k hk hm)⟩
theorem FY {n B o:Nat} {w X:World} (h:aW n B w X) (v:Value):aW n B w ((X.setCell ⟨B,o,none⟩ v).drew) :=
 ⟨h.os,h.tape,h.output,Nat.le_trans h.size (KeepsWalks.setCell X _ v).size,fun k hk hm=>(Below.heap_setCell X ⟨B,o,none⟩ v k hm).trans (h.block k hk hm)⟩
theorem oK {n o:Nat} {w X:World} (h:Below n w X) (q:Bool):Below n w (X.setCell ⟨n,o,none⟩ (.bool q)) :=
 ⟨h.os,h.tape,h.output,Nat.le_trans h.size (KeepsWalks.setCell X _ _).size,fun k hk=>(Below.heap_setCell X ⟨n,o,none⟩ _ k (by show k≠n;omega)).trans (h.block k hk)⟩
theorem new_ne {base:Nat} {W:World} {b off len cap:Nat} {X:List Int} (h:New base W (.slice (some ⟨b,off,none⟩) len cap) X):base≤b:=by
 rcases h.2 with ⟨e,_⟩ | ⟨g,cap',cur,e,hb,_⟩
 ·cases e
 ·cases e;exact hb
theorem Jw {base m:Nat} {W W':World} {a:Option Addr} {cap:Nat} {X:List Int} (h:New base W (.slice a X.length cap) X) (hK:aW W.heap.size m W W') (hm:m < base):Ints W'.heap.size W' a X:=by
 obtain ⟨a',cap',e,hI,_⟩:=New.ints (h.abo hK hm);cases e;exact hI
set_option linter.unusedSimpArgs false in
set_option maxRecDepth 100000 in
set_option maxHeartbeats 60000000 in
theorem oL (rk za zb:List Int) (ar aa ab:Option Addr) (cr ca cb:Nat) (w:World) (hR:Ints w.heap.size w ar rk) (hA:Ints w.heap.size w aa za) (hB:Ints w.heap.size w ab zb) (Db:za.length≤ca) (DD:ca≤maxLen) (hcb:zb.length≤cb) (DF:cb≤maxLen)
 (ha:Tm.err za = 0) (hb:Tm.err zb = 0) (hr:rk.length = 6) :
 Calls Tryz.prog 64 #[.slice ar rk.length cr,.slice aa za.length ca,.slice ab zb.length cb] w fun e w'=>e = .returned (.bool (Tm.ab rk za zb 0 0))∧Below w.heap.size w w':=by
 have la:=Tm.aI ha;have lb:=Tm.aI hb;have pa:=Tm.bM ha;have pb:=Tm.bM hb;obtain ⟨br,fr,rfl,hbr,_⟩:=hR.at (by omega);obtain ⟨ba,fa,rfl,Rk,_⟩:=hA.at pa;obtain ⟨bb,fb,rfl,hbb,_⟩:=hB.at pb;have HR:=hid (fun W (hW:Below w.heap.size w W)=>(hR.below hW).mono hW.size);have HA:=hid (fun W (hW:Below w.heap.size w W)=>(hA.below hW).mono hW.size);have HB:=hid (fun W (hW:Below w.heap.size w W)=>(hB.below hW).mono hW.size);have PA:=hid (fun W (hW:Below w.heap.size w W) i (hi:i < za.length)=>Ck za (some ⟨ba,fa,none⟩) ca i W (HA.out W hW) Db DD ha hi);have PB:=hid (fun W (hW:Below w.heap.size w W) j (hj:j < zb.length)=>Ck zb (some ⟨bb,fb,none⟩) cb j W (HB.out W hW) hcb DF hb hj);have QA:=hid (fun W (hW:Below w.heap.size w W) i (hi:i < za.length)=>mE za (some ⟨ba,fa,none⟩) ca i W (HA.out W hW) Db DD ha hi);have QB:=hid (fun W (hW:Below w.heap.size w W) j (hj:j < zb.length)=>mE zb (some ⟨bb,fb,none⟩) cb j W (HB.out W hW) hcb DF hb hj);have Ea:=hid ha;have Eb:=hid hb;have Hr:=hid hr;have hT0:=yJ.new w rk za zb;have hB0:Below w.heap.size w (w.alloc (.cells Tryz.zeroCells135 135)):=(Below.refl _ w).alloc (Nat.le_refl _) _;have la':(za.length:Int)≤30:=by omega
 have lb':(zb.length:Int)≤30:=by omega
 clear hR hA hB Db hcb DD DF ha hb hr hbr Rk hbb;go_enter Tryz.func64,Tryz.ntmps64;go_wp2_with fail;go_loopw [8] (fun v wr=>Vm rk za zb w v wr) (fun v _=>((intOf v)+1).toNat)
 case atStart=>exact .inl ⟨za.length - 1,by omega,by congr 1;omega,by rw [show za.length - 1+1 = za.length from by omega];exact hT0,hB0⟩
 case round =>
  clear hT0 hB0;rcases hrel with ⟨i,hi,rfl,hT,hBw⟩ | ⟨rfl,hT,hBw⟩
  ·have ajW:(i:Int) < 30:=by omega
   rw [PO] at hT;go_wp2_with fail;go_loopw [9] (fun v wr=>DC rk za zb w i v wr) (fun v _=>((intOf v)+1).toNat)
   case atStart=>exact .inl ⟨zb.length - 1,by omega,by congr 1;omega,by rw [show zb.length - 1+1 = zb.length from by omega];exact hT,hBw⟩
   case round =>
    clear hT hBw;rcases hrel with ⟨j,hj,rfl,hT,hBw⟩ | ⟨rfl,hT,hBw⟩
    ·have aeE:(j:Int) < 30:=by omega
     rw [PQ] at hT;have hlt:=hT.1;obtain ⟨X,hX⟩:∃ X,Tm.BB za i (Tm.room (za[i]?.getD 0)) = X:=⟨_,rfl⟩;obtain ⟨Y,hY⟩:∃ Y,Tm.BB zb j (Tm.room (zb[j]?.getD 0)) = Y:=⟨_,rfl⟩;have lx:X.length = Tm.room (za[i]?.getD 0):=by rw [← hX];exact Tm.DI _ _ _
     have ly:Y.length = Tm.room (zb[j]?.getD 0):=by rw [← hY];exact Tm.DI _ _ _
     have aX:∀ k,k < X.length→X[k]?.getD 0 = (Tm.pos za i k:Int):=fun k hk=>by rw [← hX];exact Tm.Ou _ _ (by omega)
     have aY:∀ k,k < Y.length→Y[k]?.getD 0 = (Tm.pos zb j k:Int):=fun k hk=>by rw [← hY];exact Tm.Ou _ _ (by omega)
     have PAi:=hid (PA.out wr hBw i hi);have PBj:=hid (fun W hW=>PB.out W hW j hj);rw [hX] at PAi;rw [hY] at PBj;have r1:X.length≤2:=by rw [lx];exact Tm.room_le _
     have r2:Y.length≤2:=by rw [ly];exact Tm.room_le _
     have Xe:=hid (Tm.Xf (rk:=rk) Ea.out Eb.out hi hj);rw [← lx] at Xe;have Hpx:=hid (fun k (hk:k < X.length)=>Tm.BC Ea.out hi (m:=k) (by omega));have Hpy:=hid (fun k (hk:k < Y.length)=>Tm.BC Eb.out hj (m:=k) (by omega));have AX:=hid aX;have AY:=hid aY;have Hlx:=hid lx;have Hly:=hid ly;clear hX hY lx ly aX aY;go_wp2_with (first
      | (go_at_call_of 93 (Value.slice (some ⟨ba,fa,none⟩) za.length ca);refine PAi.out.mono ?_;rintro e w1 ⟨v1,rfl,hN1,b1⟩;have B1:=hBw.trans (b1.mono hBw.size);obtain ⟨x1,c1,rfl,_⟩:=New.ints hN1)
      | (go_at_call_of 93 (Value.slice (some ⟨bb,fb,none⟩) zb.length cb);refine (PBj.out w1 B1).mono ?_;rintro e w2 ⟨v2,rfl,eH,b2⟩;have B2:=B1.trans (b2.mono B1.size);obtain ⟨x2,c2,rfl,_⟩:=New.ints eH))
     have T2:=(hT.below b1).below b2;have N1:=hid (New.below hN1 b2);have N2:=hid (eH.mono b1.size);have CX:=hid (fun W (hK:aW w2.heap.size w.heap.size w2 W)=>Jw N1.out hK hlt);have CY:=hid (fun W (hK:aW w2.heap.size w.heap.size w2 W)=>Jw N2.out hK hlt);clear hT hN1 eH b1 b2 B1 PAi PBj;go_loopw [12] (fun v W=>∃ k:Nat,k≤X.length∧v = .int .i64 (k:Int)∧yJ W w.heap.size (Jk (Cj rk za zb i (j+1)) i j (Tm.bp rk za zb i j k))∧aW w2.heap.size w.heap.size w2 W) (fun v _=>X.length - (intOf v).toNat)
     case atStart=>exact ⟨0,Nat.zero_le _,rfl,T2,aW.refl _ _ _⟩
     case round =>
      obtain ⟨k,hk,rfl,hT,hK⟩:=hrel;clear T2;have Bw:Below w.heap.size w wr:=B2.trans ((hK.mono B2.size).below (Nat.le_refl _));by_cases hlt3:k < X.length
      ·have ahQ:(k:Int) < (X.length:Int):=by omega
       have hp:=Hpx.out k hlt3;have hpg:=Tm.jr za i k;obtain ⟨bx,ox,rfl,_,cx⟩:=CX.out wr hK k hlt3;rw [AX.out k hlt3] at cx;have RL:=hT.on (by omega) (by omega);have fij:=(hT.2 i j (by omega) (by omega)).2;have cpj:=hT.off (p:=Tm.pos za i k) (q:=j) hp hj (.inl hpg) (by omega) (by omega);have hbs:=hid (Tm.Ov rk za zb i j k);have X6:(Tm.pos za i k:Int) < 30:=by omega
       have HT:=hid hT;have hset:=hid (fun W (hW:Below wr.heap.size wr W) q=>((hT.below hW).set (i:=i) (j:=j) (by omega) (by omega) q).eq (Ow _ i j _ q));have HK:=hid hK;have hne:w.heap.size≠bx:=by have:=new_ne N1.out;omega
       clear hT hK;cases hv:Tm.bp rk za zb i j k with
       | true =>
        rw [hv] at RL hbs;clear hv;go_wp2_with fail;have ajX:=World.cell?_setCell_same wr ⟨w.heap.size,i * 30+j,none⟩ (.bool true) RL;go_big_region
        all_goals (
         go_wp2;go_roundw
         case rel=>exact ⟨k+1,by omega,by go_num,by rw [hbs.out];exact hset.out wr (Below.refl _ _) true,FY HK.out _⟩
         case measure=>simp [intOf];omega)
       | false =>
        rw [hv] at RL hbs;clear hv;cases hA:Tm.ab rk za zb (Tm.pos za i k) j with
        | true =>
         rw [hA] at cpj hbs;have hv1:Hid (Tm.bp rk za zb i j (k+1) = true):=by show _ = _;rw [hbs.out];simp
         clear hA hbs;go_wp2_with fail;go_big_region
         all_goals (
          go_wp2;go_roundw
          case rel=>exact ⟨k+1,by omega,by go_num,by rw [hv1.out];exact hset.out wr (Below.refl _ _) true,FY HK.out _⟩
          case measure=>simp [intOf];omega)
        | false =>
         rw [hA] at cpj hbs;have hv1:Hid (Tm.bp rk za zb i j (k+1) = Tm.sm za zb (Tm.pos za i k) j):=by show _ = _;rw [hbs.out];simp
         clear hA hbs;have hS:=hid (fun w' (hW:Below wr.heap.size wr w')=>(show w'.cell? ⟨bx,ox+k,none⟩ = some (.int .i64 (Tm.pos za i k:Int))∧w'.cell? ⟨w.heap.size,Tm.pos za i k * 30+j,none⟩ = some (.bool false) from
          ⟨(hW.cell (p:=⟨bx,ox+k,none⟩) (lt_of_cell cx)).trans cx,(hW.cell (p:=⟨w.heap.size,Tm.pos za i k * 30+j,none⟩) HT.out.1).trans cpj⟩))
         have hSs:=hid (fun w' (hW:Below wr.heap.size wr w') q=>(show (w'.setCell ⟨w.heap.size,i * 30+j,none⟩ (.bool q)).cell? ⟨bx,ox+k,none⟩ = some (.int .i64 (Tm.pos za i k:Int))∧(w'.setCell ⟨w.heap.size,i * 30+j,none⟩ (.bool q)).cell? ⟨w.heap.size,Tm.pos za i k * 30+j,none⟩ = some (.bool false) from
          ⟨(World.cell?_setCell_far _ _ _ _ hne).trans (hS.out w' hW).1,(World.cell?_setCell_other _ _ _ _ (fun e'=>by
            simp only [Addr.mk.injEq,and_true,true_and] at e';omega)).trans (hS.out w' hW).2⟩))
         have hCi:=hid (fun w' (hW:Below wr.heap.size wr w')=>(⟨(hW.cell (p:=⟨w.heap.size,i * 30+j,none⟩) HT.out.1).trans RL,(hW.frozen (p:=⟨w.heap.size,i * 30+j,none⟩) HT.out.1).trans fij⟩:w'.cell? ⟨w.heap.size,i * 30+j,none⟩ = some (.bool false)∧w'.frozen? ⟨w.heap.size,i * 30+j,none⟩ = false));have hP1:=hid (fun W hW=>QA.out W hW (Tm.pos za i k) hp);have hP2:=hid (fun W hW=>QB.out W hW j hj);have pl3:=Tm.aI (Tm.dC Ea.out hp);have Vn:=hid (fun W x3 c3 x4 c4 h3 h4=>nO (Tm.part za (Tm.pos za i k)) (Tm.part zb j) x3 x4 c3 c4 W h3 h4 (by unfold maxLen;omega));have hq:Hid (dK (Tm.part za (Tm.pos za i k)) (Tm.part zb j) = Tm.sm za zb (Tm.pos za i k) j):=rfl;rw [hq.out] at Vn;clear pl3;generalize Tm.sm za zb (Tm.pos za i k) j = sq at *;generalize Tm.part za (Tm.pos za i k) = Pa at *;generalize Tm.part zb j = Pb at *;go_wp2_with fail;go_region_with (first
          | (go_at_call_of 94 (Value.slice (some ⟨ba,fa,none⟩) za.length ca);refine (hP1.out _ ?_).mono ?_;exact dn Bw;clear hP1;rintro e w3 ⟨v3,rfl,iD,b3⟩;obtain ⟨x3,c3,rfl,yC,_⟩:=New.ints iD;have d3:Below wr.heap.size wr w3:=⟨b3.os,b3.tape,b3.output,b3.size,b3.block⟩;have e3:=Bw.trans (d3.mono Bw.size))
          | (go_at_call_of 94 (Value.slice (some ⟨bb,fb,none⟩) zb.length cb);refine (hP2.out _ ?_).mono ?_;exact e3;clear hP2;rintro e w4 ⟨v4,rfl,gI,b4⟩;obtain ⟨x4,c4,rfl,U6,_⟩:=New.ints gI;have d4:Below wr.heap.size wr w4:=d3.trans (b4.mono d3.size);have Xg:=hid (Vn.out w4 x3 c3 x4 c4 ((yC.below b4).mono b4.size) U6))
          | (go_at_call 25;refine Xg.out.mono ?_;clear Xg;rintro e w5 ⟨rfl,b5⟩;have d5:Below wr.heap.size wr w5:=d4.trans (b5.mono d4.size);obtain ⟨c5,f5⟩:=hCi.out w5 d5))
         all_goals (
          go_wp2;go_roundw
          case rel=>exact ⟨k+1,by omega,by go_num,by rw [hv1.out];exact hset.out w5 d5 sq,PN (HK.out.trans (aW.of_below (d5.mono HK.out.size))) _⟩
          case measure=>simp [intOf];omega)
      ·obtain rfl:k = X.length:=by omega
       have RL:=hT.on (by omega) (by omega);obtain ⟨_,_,e5,_,ci⟩:=HA.out wr Bw i hi;cases e5;obtain ⟨_,_,e6,_,cj⟩:=HB.out wr Bw j hj;cases e6;have hi':(i:Int) < (za.length:Int):=by omega
       have hj':(j:Int) < (zb.length:Int):=by omega
       have hsA:=hid (fun (h:za[i]?.getD 0 < 0)=>show Tm.sy rk za zb i j = false by unfold Tm.sy;rw [decide_eq_false (by omega)];rfl);have hsB:=hid (fun (h:zb[j]?.getD 0 < 0)=>show Tm.sy rk za zb i j = false by unfold Tm.sy;rw [decide_eq_false (p:=0≤zb[j]?.getD 0) (by omega)];simp);have hsP:=hid (fun h1 h2=>RN (rk:=rk) (i:=i) (j:=j) (za:=za) (zb:=zb) h1 h2);have kf:=Tm.gK (Tm.lq (Tm.dH Ea.out) hi);have kg:=Tm.gK (Tm.lq (Tm.dH Eb.out) hj);have Jy:=hid (fun q (hq:q = Tm.ab rk za zb i j)=>show Jk (Cj rk za zb i (j+1)) i j q = Cj rk za zb i j by rw [hq];exact RO hi hj);rw [← Hlx.out,← Hly.out] at hsP;have CI:=hid (fun W (hW:Below w.heap.size w W)=>show W.cell? ⟨ba,fa+i,none⟩ = some (.int .i64 (za[i]?.getD 0)) by
        obtain ⟨_,_,e,_,c⟩:=HA.out W hW i hi;cases e;exact c)
       have CJ:=hid (fun W (hW:Below w.heap.size w W)=>show W.cell? ⟨bb,fb+j,none⟩ = some (.int .i64 (zb[j]?.getD 0)) by
        obtain ⟨_,_,e,_,c⟩:=HB.out W hW j hj;cases e;exact c)
       have CR:=hid (fun W (hW:Below w.heap.size w W) n (hn:n < 6)=>show W.cell? ⟨br,fr+n,none⟩ = some (.int .i64 (rk[n]?.getD 0)) by
        obtain ⟨_,_,e,_,c⟩:=HR.out W hW n (by rw [Hr.out];exact hn);cases e;exact c)
       generalize za[i]?.getD 0 = s1 at *;generalize zb[j]?.getD 0 = s2 at *;by_cases h1:s1 < 0
       ·have hz:=hid (hsA.out h1)
        go_wp2;go_roundw
        case rel=>exact DC.next hj (hT.eq (Jy.out _ (by rw [Xe.out,hz.out,Bool.or_false]))) Bw (by go_num)
        case measure=>simp [intOf]
       by_cases h2:s2 < 0
       ·have hz:=hid (hsB.out h2)
        have h1':decide (s1 < 0) = false:=by simpa using h1
        go_wp2;go_roundw
        case rel=>exact DC.next hj (hT.eq (Jy.out _ (by rw [Xe.out,hz.out,Bool.or_false]))) Bw (by go_num)
        case measure=>simp [intOf]
       have h1':decide (s1 < 0) = false:=by simpa using h1
       have h2':decide (s2 < 0) = false:=by simpa using h2
       obtain ⟨f,rfl⟩:=Int.eq_ofNat_of_zero_le (show 0≤s1 by omega);obtain ⟨g,rfl⟩:=Int.eq_ofNat_of_zero_le (show 0≤s2 by omega);have hsq:=hid (hsP.out (by omega) (by omega));clear hsA hsB hsP h1 h2;cases hv:Tm.bp rk za zb i j X.length with
       | true =>
        rw [hv] at RL Xe hT;have hz:=hid (show Tm.ab rk za zb i j = true by rw [Xe.out];rfl);clear hv;go_wp2;go_roundw
        case rel=>exact DC.next hj (hT.eq (Jy.out _ hz.out.symm)) Bw (by go_num)
        case measure=>simp [intOf]
       | false =>
        rw [hv] at RL Xe hT;have Hz:=hid (show Tm.ab rk za zb i j = Tm.sy rk za zb i j by rw [Xe.out];rfl);clear hv Xe;go_wp2_with fail;go_loopw [13,14] (fun q v W=>∃ m:Nat,m≤Y.length∧v = .int .i64 (m:Int)∧q = .bool (Tm.ov rk za zb i j m)∧yJ W w.heap.size (Jk (Cj rk za zb i (j+1)) i j false)∧aW w2.heap.size w.heap.size w2 W) (fun _ v _=>Y.length - (intOf v).toNat)
        case atStart=>exact ⟨0,Nat.zero_le _,rfl,rfl,hT,hK⟩
        case round =>
         clear hT hK RL ci cj Bw;obtain ⟨m,hm,rfl,rfl,hT,hK⟩:=hrel;have Bw:Below w.heap.size w wr:=B2.trans ((hK.mono B2.size).below (Nat.le_refl _));by_cases hm2:m < Y.length
         ·have abq:(m:Int) < (Y.length:Int):=by omega
          have hp:=Hpy.out m hm2;have hpg:=Tm.jr zb j m;obtain ⟨by',oy,rfl,_,cy⟩:=CY.out wr hK m hm2;rw [AY.out m hm2] at cy;have ciy:=hT.off (p:=i) (q:=Tm.pos zb j m) hi hp (.inr ⟨rfl,hpg⟩) (by omega) (by omega);have hos:=hid (Tm.Ox rk za zb i j m);have X6:(Tm.pos zb j m:Int) < 30:=by omega
          have HT:=hid hT;have HK:=hid hK;clear hT hK;cases hf:Tm.ov rk za zb i j m with
          | false =>
           rw [hf] at hos;clear hf;go_wp2_with fail;go_quiet (fail)
           go_wp2;go_roundw
           case rel=>exact ⟨m+1,by omega,by go_num,by rw [hos.out];rfl,HT.out.drew _,dA HK.out _⟩
           case measure=>simp [intOf];omega
          | true =>
           rw [hf] at hos;clear hf;generalize Tm.ab rk za zb i (Tm.pos zb j m) = aq at *;go_wp2_with fail;go_quiet (fail)
           go_wp2;go_roundw
           case rel=>exact ⟨m+1,by omega,by go_num,by rw [hos.out];rfl,HT.out.drew _,dA HK.out _⟩
           case measure=>simp [intOf];omega
         ·obtain rfl:m = Y.length:=by omega
          have ci:=CI.out wr Bw;have cj:=CJ.out wr Bw;have RL:=hT.on (by omega) (by omega);have fij:=(hT.2 i j (by omega) (by omega)).2;have hset:=hid (fun W (hT:yJ W w.heap.size (Jk (Cj rk za zb i (j+1)) i j false)) q (hq:q = Tm.ab rk za zb i j)=>(hT.set (i:=i) (j:=j) (by omega) (by omega) q).eq ((Ow _ i j _ q).trans (Jy.out q hq)));by_cases hfg:(f:Int) = (g:Int)
          ·have RP:((f:Int) != (g:Int)) = false:=by rw [hfg];simp
           have hxy:X.length = Y.length:=by
            have h3:=Hlx.out;have h4:=Hly.out;rw [hfg] at h3;rw [h3,h4]
           have Lr:=hsq.out;rw [if_pos hfg] at Lr;have Hq:=hid (Hz.out.trans Lr);have Hxy:=hid hxy;clear Lr hfg hsq Hz hxy;generalize Tm.ov rk za zb i j Y.length = oq at *;go_wp2_with fail;go_quiet (fail)
           go_wp2_with fail;try simp only [RP]
           clear RP;go_loopw [15] (fun v W=>∃ n:Nat,n≤X.length∧v = .int .i64 (n:Int)∧Hid (Tm.PR za zb i j n = true)∧yJ W w.heap.size (Jk (Cj rk za zb i (j+1)) i j false)∧aW w2.heap.size w.heap.size w2 W) (fun v _=>X.length - (intOf v).toNat)
           case atStart=>exact ⟨0,Nat.zero_le _,rfl,hid rfl,hT.drew _,dA hK _⟩
           case round =>
            clear hT hK RL ci cj Bw fij;obtain ⟨n,hn,rfl,hsm,hT,hK⟩:=hrel;have Bw:Below w.heap.size w wr:=B2.trans ((hK.mono B2.size).below (Nat.le_refl _));by_cases hn2:n < X.length
            ·have aj0:(n:Int) < (X.length:Int):=by omega
             have hny:n < Y.length:=by have:=Hxy.out;omega
             have aj1:(n:Int) < (Y.length:Int):=by omega
             have hp:=Hpx.out n hn2;have hpg:=Tm.jr za i n;have hp2:=Hpy.out n hny;obtain ⟨bx,ox,rfl,_,cx⟩:=CX.out wr hK n hn2;rw [AX.out n hn2] at cx;obtain ⟨by',oy,rfl,_,cy⟩:=CY.out wr hK n hny;rw [AY.out n hny] at cy;have HT:=hid hT;have HK:=hid hK;have hS:=hid (fun w' (hW:Below wr.heap.size wr w')=>(show w'.cell? ⟨bx,ox+n,none⟩ = some (.int .i64 (Tm.pos za i n:Int))∧w'.cell? ⟨by',oy+n,none⟩ = some (.int .i64 (Tm.pos zb j n:Int)) from
              ⟨(hW.cell (p:=⟨bx,ox+n,none⟩) (lt_of_cell cx)).trans cx,(hW.cell (p:=⟨by',oy+n,none⟩) (lt_of_cell cy)).trans cy⟩))
             have hP1:=hid (fun W hW=>QA.out W hW (Tm.pos za i n) hp);have hP2:=hid (fun W hW=>QB.out W hW (Tm.pos zb j n) hp2);have pl3:=Tm.aI (Tm.dC Ea.out hp);have Vn:=hid (fun W x3 c3 x4 c4 h3 h4=>nO (Tm.part za (Tm.pos za i n)) (Tm.part zb (Tm.pos zb j n)) x3 x4 c3 c4 W h3 h4 (by unfold maxLen;omega));have hq:Hid (dK (Tm.part za (Tm.pos za i n)) (Tm.part zb (Tm.pos zb j n)) = Tm.sm za zb (Tm.pos za i n) (Tm.pos zb j n)):=rfl;rw [hq.out] at Vn;have hsn:=hid (Tm.yK za zb i j n);have hfd:=hid (fun h=>Tm.Xh (rk:=rk) hn2 hsm.out h);have X6:(Tm.pos za i n:Int) < 30:=by omega
             have aj2:(Tm.pos zb j n:Int) < 30:=by omega
             clear pl3 hq hT hK;cases hsv:Tm.sm za zb (Tm.pos za i n) (Tm.pos zb j n) with
             | true =>
              rw [hsv] at Vn hsn;clear hsv hfd;go_wp2_with fail;have hS0:=hS.out wr (Below.refl _ _);go_region_held3 (fun w'=>w'.cell? ⟨bx,ox+n,none⟩ = some (.int .i64 (Tm.pos za i n:Int))∧w'.cell? ⟨by',oy+n,none⟩ = some (.int .i64 (Tm.pos zb j n:Int))) (first | assumption | exact hS.out wr (Below.refl _ _) | exact hS.out _ (dn (Below.refl _ wr))) (first
               | (go_at_call_of 94 (Value.slice (some ⟨ba,fa,none⟩) za.length ca);refine (hP1.out _ (dn Bw)).mono ?_;clear hP1;rintro e w3 ⟨v3,rfl,iD,b3⟩;obtain ⟨x3,c3,rfl,yC,_⟩:=New.ints iD;have d3:Below wr.heap.size wr w3:=⟨b3.os,b3.tape,b3.output,b3.size,b3.block⟩;have Dc:=hS.out w3 d3;have e3:=Bw.trans (d3.mono Bw.size))
               | (go_at_call_of 94 (Value.slice (some ⟨bb,fb,none⟩) zb.length cb);refine (hP2.out w3 e3).mono ?_;clear hP2;rintro e w4 ⟨v4,rfl,gI,b4⟩;obtain ⟨x4,c4,rfl,U6,_⟩:=New.ints gI;have d4:Below wr.heap.size wr w4:=d3.trans (b4.mono d3.size);have DJ:=hS.out w4 d4;have Xg:=hid (Vn.out w4 x3 c3 x4 c4 ((yC.below b4).mono b4.size) U6))
               | (go_at_call 25;refine Xg.out.mono ?_;clear Xg;rintro e w5 ⟨rfl,b5⟩;have d5:Below wr.heap.size wr w5:=d4.trans (b5.mono d4.size);have hS5:=hS.out w5 d5))
              all_goals (
               go_wp2;go_roundw
               case rel=>exact ⟨n+1,by omega,by go_num,hid (by rw [hsn.out,hsm.out];rfl),HT.out.below d5,HK.out.trans (aW.of_below (d5.mono HK.out.size))⟩
               case measure=>simp [intOf];omega)
             | false =>
              have Hfd:=hid (hfd.out hsv);rw [hsv] at Vn;clear hsv hfd hsn;go_wp2_with fail;have hS0:=hS.out wr (Below.refl _ _);go_region_held3 (fun w'=>w'.cell? ⟨bx,ox+n,none⟩ = some (.int .i64 (Tm.pos za i n:Int))∧w'.cell? ⟨by',oy+n,none⟩ = some (.int .i64 (Tm.pos zb j n:Int))) (first | assumption | exact hS.out wr (Below.refl _ _) | exact hS.out _ (dn (Below.refl _ wr))) (first
               | (go_at_call_of 94 (Value.slice (some ⟨ba,fa,none⟩) za.length ca);refine (hP1.out _ (dn Bw)).mono ?_;clear hP1;rintro e w3 ⟨v3,rfl,iD,b3⟩;obtain ⟨x3,c3,rfl,yC,_⟩:=New.ints iD;have d3:Below wr.heap.size wr w3:=⟨b3.os,b3.tape,b3.output,b3.size,b3.block⟩;have Dc:=hS.out w3 d3;have e3:=Bw.trans (d3.mono Bw.size))
               | (go_at_call_of 94 (Value.slice (some ⟨bb,fb,none⟩) zb.length cb);refine (hP2.out w3 e3).mono ?_;clear hP2;rintro e w4 ⟨v4,rfl,gI,b4⟩;obtain ⟨x4,c4,rfl,U6,_⟩:=New.ints gI;have d4:Below wr.heap.size wr w4:=d3.trans (b4.mono d3.size);have DJ:=hS.out w4 d4;have Xg:=hid (Vn.out w4 x3 c3 x4 c4 ((yC.below b4).mono b4.size) U6))
               | (go_at_call 25;refine Xg.out.mono ?_;clear Xg;rintro e w5 ⟨rfl,b5⟩;have d5:Below wr.heap.size wr w5:=d4.trans (b5.mono d4.size);have hS5:=hS.out w5 d5))
              all_goals (
               obtain ⟨cx5,cy5⟩:=hS.out w5 d5;have T5:=HT.out.below d5;have RL:=T5.on (by omega) (by omega);have fij:=(T5.2 i j (by omega) (by omega)).2;have cpq:=T5.off (p:=Tm.pos za i n) (q:=Tm.pos zb j n) hp hp2 (.inl hpg) (by omega) (by omega);have B5:=Bw.trans (d5.mono Bw.size);have B6:=hid (fun q=>(oK B5 (o:=i * 30+j) q:Below w.heap.size w (w5.setCell ⟨w.heap.size,i * 30+j,none⟩ (.bool q))));have HT5:=hid T5;rw [← Hfd.out] at cpq;clear hS hS0 T5 Vn cx cy;generalize Tm.fd rk za zb i j X.length = dq at *;cases oq with
               | true =>
                go_wp2_with fail;go_big_region
                all_goals (
                 go_wp2;go_roundw
                 case rel=>exact DC.next hj ((hset.out w5 HT5.out dq (by rw [Hq.out];rfl)).drew 1) (dn (B6.out dq)) (by go_num)
                 case measure=>simp [intOf])
               | false =>
                go_wp2_with fail;go_big_region
                all_goals (
                 go_wp2;go_roundw
                 case rel=>exact DC.next hj ((hset.out w5 HT5.out false (by rw [Hq.out];rfl)).drew 1) (dn (B6.out false)) (by go_num)
                 case measure=>simp [intOf]))
            ·obtain rfl:n = X.length:=by omega
             have hz:=hid (show Tm.ab rk za zb i j = false by rw [Hq.out,Tm.Oy hsm.out,Bool.and_false]);go_wp2;go_roundw
             case rel=>exact DC.next hj (hT.eq (Jy.out _ hz.out.symm)) Bw (by go_num)
             case measure=>simp [intOf]
          ·have RP:((f:Int) != (g:Int)) = true:=by simpa using hfg
           have Lr:=hsq.out;rw [if_neg hfg] at Lr;have Hq:=hid (Hz.out.trans Lr);have kf6:f < 6:=by omega
           have kg6:g < 6:=by omega
           have cf:=CR.out wr Bw f kf6;have cg:=CR.out wr Bw g kg6;have hrf:Hid (Tm.lu rk (f:Int) = rk[f]?.getD 0):=rfl;have hrg:Hid (Tm.lu rk (g:Int) = rk[g]?.getD 0):=rfl;rw [hrf.out,hrg.out] at Hq;have hfl:(f:Int) < (rk.length:Int):=by have:=Hr.out;omega
           have hgl:(g:Int) < (rk.length:Int):=by have:=Hr.out;omega
           have HT5:=hid (hT.drew);have B6:=hid (fun q=>(oK Bw (o:=i * 30+j) q:Below w.heap.size w (wr.setCell ⟨w.heap.size,i * 30+j,none⟩ (.bool q))));clear Lr hfg hsq Hz hrf hrg kf6 kg6;generalize Tm.ov rk za zb i j Y.length = oq at *;generalize rk[f]?.getD 0 = rf at *;generalize rk[g]?.getD 0 = rg at *;cases oq with
           | true =>
            go_wp2_with fail;go_quiet (fail)
            go_wp2_with fail;go_big_region
            all_goals (
             go_wp2;go_roundw
             case rel=>exact DC.next hj (hset.out _ (hT.drew _) (decide (rg < rf)) (by rw [Hq.out];rfl)) (oK (below_drewN Bw _) _) (by go_num)
             case measure=>simp [intOf])
           | false =>
            go_wp2_with fail;go_quiet (fail)
            go_wp2_with fail;go_big_region
            all_goals (
             go_wp2;go_roundw
             case rel=>exact DC.next hj (hset.out _ (hT.drew _) false (by rw [Hq.out];rfl)) (oK (below_drewN Bw _) _) (by go_num)
             case measure=>simp [intOf])
    ·rw [Vo] at hT
     go_wp2;go_roundw
     case rel=>exact Vm.next hi hT hBw (by go_num)
     case measure=>simp [intOf]
  ·have hc:=(hT.2 0 0 (by omega) (by omega)).1
   have h0:Rj rk za zb 0 0 0 = Tm.ab rk za zb 0 0:=by unfold Rj;rw [if_pos ⟨pa,pb,Nat.le_refl _⟩]
   rw [h0] at hc;simp only [Nat.zero_mul,Nat.zero_add] at hc;go_wp2;go_ret;exact ⟨rfl,hBw⟩
end
end Go.Proofs.YtglohanbpjaieaaGreat
