/-
  Parts of the proof: Ref4.
-/
import Derived.Deep.RegionHeld3
import Derived.Deep.DrawnRows
import Derived.Deep.DeepCutAuto
import Derived.BigQuiet
import Derived.BigRegion
import Derived.Deep.RegionWith
import Derived.Test.YtglohanbpjaieaaGreatBrt9
namespace Go.Proofs.YtglohanbpjaieaaGreat
open Go.Proofs Go.RowKit Go.Shelf Go.Maps
attribute [local go_sem ↓] Go.wp_at_zero Go.wp_at_succ
def Rel1 (rk za zb:List Int) (w:World) (v:Value) (wr:World):Prop :=
 (∃ i:Nat,i < za.length∧v = .int .i64 (i:Int)∧Tab wr w.heap.size (tb0 rk za zb (i+1))∧Below w.heap.size w wr)∨(v = .int .i64 (-1)∧Tab wr w.heap.size (tb0 rk za zb 0)∧Below w.heap.size w wr)
def Rel2 (rk za zb:List Int) (w:World) (i:Nat) (v:Value) (wr:World):Prop :=
 (∃ j:Nat,j < zb.length∧v = .int .i64 (j:Int)∧Tab wr w.heap.size (tbf rk za zb i (j+1))∧Below w.heap.size w wr)∨(v = .int .i64 (-1)∧Tab wr w.heap.size (tbf rk za zb i 0)∧Below w.heap.size w wr)
theorem Rel1.next {rk za zb:List Int} {w wr:World} {i:Nat} (hi:i < za.length) (hT:Tab wr w.heap.size (tb0 rk za zb i)) (hB:Below w.heap.size w wr) {x:Int} (hx:x = (i:Int) - 1):Rel1 rk za zb w (.int .i64 x) wr:=by
 subst hx
 cases i with
 | zero=>exact .inr ⟨rfl,hT,hB⟩
 | succ i=>exact .inl ⟨i,by omega,by congr 1;omega,hT,hB⟩
theorem Rel2.next {rk za zb:List Int} {w wr:World} {i j:Nat} (hj:j < zb.length) (hT:Tab wr w.heap.size (tbf rk za zb i j)) (hB:Below w.heap.size w wr) {x:Int} (hx:x = (j:Int) - 1):Rel2 rk za zb w i (.int .i64 x) wr:=by
 subst hx
 cases j with
 | zero=>exact .inr ⟨rfl,hT,hB⟩
 | succ j=>exact .inl ⟨j,by omega,by congr 1;omega,hT,hB⟩
theorem New.keepM {base m:Nat} {W W':World} {v:Value} {zs:List Int} (h:New base W v zs) (hK:Keep W.heap.size m W W') (hm:m < base):New base W' v zs:=by
 refine ⟨h.1,?_⟩
 rcases h.2 with hn | ⟨g,cap,cur,hv,hb,hg,r⟩
 ·exact .inl hn
 ·exact .inr ⟨g,cap,cur,hv,hb,(hK.block g (Array.getElem?_eq_some_iff.1 hg).1 (by omega)).trans hg,r⟩
theorem keep_setD {n B o:Nat} {w X:World} (h:Keep n B w X) (v:Value):Keep n B w (X.setCell ⟨B,o,none⟩ v) :=
 ⟨h.os,h.tape,h.output,Nat.le_trans h.size (KeepsWalks.setCell X _ v).size,fun k hk hm=>(Below.heap_setCell X ⟨B,o,none⟩ v k hm).trans (h.block k hk hm)⟩
theorem keep_setC {n B o:Nat} {w X:World} (h:Keep n B w X) (v:Value):Keep n B w ((X.setCell ⟨B,o,none⟩ v).drew) :=
 ⟨h.os,h.tape,h.output,Nat.le_trans h.size (KeepsWalks.setCell X _ v).size,fun k hk hm=>(Below.heap_setCell X ⟨B,o,none⟩ v k hm).trans (h.block k hk hm)⟩
theorem below_setB {n o:Nat} {w X:World} (h:Below n w X) (q:Bool):Below n w (X.setCell ⟨n,o,none⟩ (.bool q)) :=
 ⟨h.os,h.tape,h.output,Nat.le_trans h.size (KeepsWalks.setCell X _ _).size,fun k hk=>(Below.heap_setCell X ⟨n,o,none⟩ _ k (by show k≠n;omega)).trans (h.block k hk)⟩
theorem new_ne {base:Nat} {W:World} {b off len cap:Nat} {X:List Int} (h:New base W (.slice (some ⟨b,off,none⟩) len cap) X):base≤b:=by
 rcases h.2 with ⟨e,_⟩ | ⟨g,cap',cur,e,hb,_⟩
 ·cases e
 ·cases e;exact hb
theorem new_ints {base m:Nat} {W W':World} {a:Option Addr} {cap:Nat} {X:List Int} (h:New base W (.slice a X.length cap) X) (hK:Keep W.heap.size m W W') (hm:m < base):Ints W'.heap.size W' a X:=by
 obtain ⟨a',cap',e,hI,_⟩:=New.ints (h.keepM hK hm)
 cases e
 exact hI
set_option linter.unusedSimpArgs false in
set_option maxRecDepth 100000 in
set_option maxHeartbeats 60000000 in
theorem refabove_any (rk za zb:List Int) (ar aa ab:Option Addr) (cr ca cb:Nat) (w:World) (hR:Ints w.heap.size w ar rk) (hA:Ints w.heap.size w aa za) (hB:Ints w.heap.size w ab zb) (hca:za.length≤ca) (hca':ca≤maxLen) (hcb:zb.length≤cb) (hcb':cb≤maxLen)
 (ha:Tm.err za = 0) (hb:Tm.err zb = 0) (hr:rk.length = 6) :
 Calls Tryz.prog 64 #[.slice ar rk.length cr,.slice aa za.length ca,.slice ab zb.length cb] w fun e w'=>e = .returned (.bool (Tm.ab rk za zb 0 0))∧Below w.heap.size w w':=by
 have la:=Tm.err_len ha
 have lb:=Tm.err_len hb
 have pa:=Tm.err_pos ha
 have pb:=Tm.err_pos hb
 obtain ⟨br,fr,rfl,hbr,_⟩:=hR.at (by omega)
 obtain ⟨ba,fa,rfl,hba,_⟩:=hA.at pa
 obtain ⟨bb,fb,rfl,hbb,_⟩:=hB.at pb
 have HR:=hid (fun W (hW:Below w.heap.size w W)=>(hR.below hW).mono hW.size)
 have HA:=hid (fun W (hW:Below w.heap.size w W)=>(hA.below hW).mono hW.size)
 have HB:=hid (fun W (hW:Below w.heap.size w W)=>(hB.below hW).mono hW.size)
 have PA:=hid (fun W (hW:Below w.heap.size w W) i (hi:i < za.length)=>partsAt_any za (some ⟨ba,fa,none⟩) ca i W (HA.out W hW) hca hca' ha hi)
 have PB:=hid (fun W (hW:Below w.heap.size w W) j (hj:j < zb.length)=>partsAt_any zb (some ⟨bb,fb,none⟩) cb j W (HB.out W hW) hcb hcb' hb hj)
 have QA:=hid (fun W (hW:Below w.heap.size w W) i (hi:i < za.length)=>partOf_any za (some ⟨ba,fa,none⟩) ca i W (HA.out W hW) hca hca' ha hi)
 have QB:=hid (fun W (hW:Below w.heap.size w W) j (hj:j < zb.length)=>partOf_any zb (some ⟨bb,fb,none⟩) cb j W (HB.out W hW) hcb hcb' hb hj)
 have Ea:=hid ha
 have Eb:=hid hb
 have Hr:=hid hr
 have hT0:=Tab.new w rk za zb
 have hB0:Below w.heap.size w (w.alloc (.cells Tryz.zeroCells135 135)):=(Below.refl _ w).alloc (Nat.le_refl _) _
 have la':(za.length:Int)≤30:=by omega
 have lb':(zb.length:Int)≤30:=by omega
 clear hR hA hB hca hcb hca' hcb' ha hb hr hbr hba hbb
 go_enter Tryz.func64,Tryz.ntmps64
 go_wp2_with fail
 go_loopw [8] (fun v wr=>Rel1 rk za zb w v wr) (fun v _=>((intOf v)+1).toNat)
 case atStart=>exact .inl ⟨za.length - 1,by omega,by congr 1;omega,by rw [show za.length - 1+1 = za.length from by omega];exact hT0,hB0⟩
 case round =>
  clear hT0 hB0
  rcases hrel with ⟨i,hi,rfl,hT,hBw⟩ | ⟨rfl,hT,hBw⟩
  ·have hi30:(i:Int) < 30:=by omega
   rw [tbf_start] at hT
   go_wp2_with fail
   go_loopw [9] (fun v wr=>Rel2 rk za zb w i v wr) (fun v _=>((intOf v)+1).toNat)
   case atStart=>exact .inl ⟨zb.length - 1,by omega,by congr 1;omega,by rw [show zb.length - 1+1 = zb.length from by omega];exact hT,hBw⟩
   case round =>
    clear hT hBw
    rcases hrel with ⟨j,hj,rfl,hT,hBw⟩ | ⟨rfl,hT,hBw⟩
    ·have hj30:(j:Int) < 30:=by omega
     rw [up2_start] at hT
     have hlt:=hT.1
     obtain ⟨X,hX⟩:∃ X,Tm.posL za i (Tm.room (za[i]?.getD 0)) = X:=⟨_,rfl⟩
     obtain ⟨Y,hY⟩:∃ Y,Tm.posL zb j (Tm.room (zb[j]?.getD 0)) = Y:=⟨_,rfl⟩
     have lx:X.length = Tm.room (za[i]?.getD 0):=by rw [← hX];exact Tm.posL_len _ _ _
     have ly:Y.length = Tm.room (zb[j]?.getD 0):=by rw [← hY];exact Tm.posL_len _ _ _
     have aX:∀ k,k < X.length→X[k]?.getD 0 = (Tm.pos za i k:Int):=fun k hk=>by rw [← hX];exact Tm.posL_at _ _ (by omega)
     have aY:∀ k,k < Y.length→Y[k]?.getD 0 = (Tm.pos zb j k:Int):=fun k hk=>by rw [← hY];exact Tm.posL_at _ _ (by omega)
     have PAi:=hid (PA.out wr hBw i hi)
     have PBj:=hid (fun W hW=>PB.out W hW j hj)
     rw [hX] at PAi
     rw [hY] at PBj
     have r1:X.length≤2:=by rw [lx];exact Tm.room_le _
     have r2:Y.length≤2:=by rw [ly];exact Tm.room_le _
     have Hab:=hid (Tm.ab_eq (rk:=rk) Ea.out Eb.out hi hj)
     rw [← lx] at Hab
     have Hpx:=hid (fun k (hk:k < X.length)=>Tm.pos_lt Ea.out hi (m:=k) (by omega))
     have Hpy:=hid (fun k (hk:k < Y.length)=>Tm.pos_lt Eb.out hj (m:=k) (by omega))
     have AX:=hid aX
     have AY:=hid aY
     have Hlx:=hid lx
     have Hly:=hid ly
     clear hX hY lx ly aX aY
     go_wp2_with (first
      | (go_at_call_of 93 (Value.slice (some ⟨ba,fa,none⟩) za.length ca);refine PAi.out.mono ?_;rintro e w1 ⟨v1,rfl,hN1,b1⟩;have B1:=hBw.trans (b1.mono hBw.size);obtain ⟨x1,c1,rfl,_⟩:=New.ints hN1)
      | (go_at_call_of 93 (Value.slice (some ⟨bb,fb,none⟩) zb.length cb);refine (PBj.out w1 B1).mono ?_;rintro e w2 ⟨v2,rfl,hN2,b2⟩;have B2:=B1.trans (b2.mono B1.size);obtain ⟨x2,c2,rfl,_⟩:=New.ints hN2))
     have T2:=(hT.below b1).below b2
     have N1:=hid (New.below hN1 b2)
     have N2:=hid (hN2.mono b1.size)
     have CX:=hid (fun W (hK:Keep w2.heap.size w.heap.size w2 W)=>new_ints N1.out hK hlt)
     have CY:=hid (fun W (hK:Keep w2.heap.size w.heap.size w2 W)=>new_ints N2.out hK hlt)
     clear hT hN1 hN2 b1 b2 B1 PAi PBj
     go_loopw [12] (fun v W=>∃ k:Nat,k≤X.length∧v = .int .i64 (k:Int)∧Tab W w.heap.size (up2 (tbf rk za zb i (j+1)) i j (Tm.bp rk za zb i j k))∧Keep w2.heap.size w.heap.size w2 W) (fun v _=>X.length - (intOf v).toNat)
     case atStart=>exact ⟨0,Nat.zero_le _,rfl,T2,Keep.refl _ _ _⟩
     case round =>
      obtain ⟨k,hk,rfl,hT,hK⟩:=hrel
      clear T2
      have Bw:Below w.heap.size w wr:=B2.trans ((hK.mono B2.size).below (Nat.le_refl _))
      by_cases hlt3:k < X.length
      ·have hlt3':(k:Int) < (X.length:Int):=by omega
       have hp:=Hpx.out k hlt3
       have hpg:=Tm.pos_gt za i k
       obtain ⟨bx,ox,rfl,_,cx⟩:=CX.out wr hK k hlt3
       rw [AX.out k hlt3] at cx
       have cij:=hT.on (by omega) (by omega)
       have fij:=(hT.2 i j (by omega) (by omega)).2
       have cpj:=hT.off (p:=Tm.pos za i k) (q:=j) hp hj (.inl hpg) (by omega) (by omega)
       have hbs:=hid (Tm.bp_succ rk za zb i j k)
       have hp30:(Tm.pos za i k:Int) < 30:=by omega
       have HT:=hid hT
       have hset:=hid (fun W (hW:Below wr.heap.size wr W) q=>((hT.below hW).set (i:=i) (j:=j) (by omega) (by omega) q).eq (up2_up2 _ i j _ q))
       have HK:=hid hK
       have hne:w.heap.size≠bx:=by have:=new_ne N1.out;omega
       clear hT hK
       cases hv:Tm.bp rk za zb i j k with
       | true =>
        rw [hv] at cij hbs
        clear hv
        go_wp2_with fail
        have cij2:=World.cell?_setCell_same wr ⟨w.heap.size,i * 30+j,none⟩ (.bool true) cij
        go_big_region
        all_goals (
         go_wp2
         go_roundw
         case rel=>exact ⟨k+1,by omega,by go_num,by rw [hbs.out];exact hset.out wr (Below.refl _ _) true,keep_setC HK.out _⟩
         case measure=>simp [intOf];omega)
       | false =>
        rw [hv] at cij hbs
        clear hv
        cases hA:Tm.ab rk za zb (Tm.pos za i k) j with
        | true =>
         rw [hA] at cpj hbs
         have hv1:Hid (Tm.bp rk za zb i j (k+1) = true):=by show _ = _;rw [hbs.out];simp
         clear hA hbs
         go_wp2_with fail
         go_big_region
         all_goals (
          go_wp2
          go_roundw
          case rel=>exact ⟨k+1,by omega,by go_num,by rw [hv1.out];exact hset.out wr (Below.refl _ _) true,keep_setC HK.out _⟩
          case measure=>simp [intOf];omega)
        | false =>
         rw [hA] at cpj hbs
         have hv1:Hid (Tm.bp rk za zb i j (k+1) = Tm.sm za zb (Tm.pos za i k) j):=by show _ = _;rw [hbs.out];simp
         clear hA hbs
         have hS:=hid (fun w' (hW:Below wr.heap.size wr w')=>(show w'.cell? ⟨bx,ox+k,none⟩ = some (.int .i64 (Tm.pos za i k:Int))∧w'.cell? ⟨w.heap.size,Tm.pos za i k * 30+j,none⟩ = some (.bool false) from
          ⟨(hW.cell (p:=⟨bx,ox+k,none⟩) (lt_of_cell cx)).trans cx,(hW.cell (p:=⟨w.heap.size,Tm.pos za i k * 30+j,none⟩) HT.out.1).trans cpj⟩))
         have hSs:=hid (fun w' (hW:Below wr.heap.size wr w') q=>(show (w'.setCell ⟨w.heap.size,i * 30+j,none⟩ (.bool q)).cell? ⟨bx,ox+k,none⟩ = some (.int .i64 (Tm.pos za i k:Int))∧(w'.setCell ⟨w.heap.size,i * 30+j,none⟩ (.bool q)).cell? ⟨w.heap.size,Tm.pos za i k * 30+j,none⟩ = some (.bool false) from
          ⟨(World.cell?_setCell_far _ _ _ _ hne).trans (hS.out w' hW).1,(World.cell?_setCell_other _ _ _ _ (fun e'=>by
            simp only [Addr.mk.injEq,and_true,true_and] at e'
            omega)).trans (hS.out w' hW).2⟩))
         have hCi:=hid (fun w' (hW:Below wr.heap.size wr w')=>(⟨(hW.cell (p:=⟨w.heap.size,i * 30+j,none⟩) HT.out.1).trans cij,(hW.frozen (p:=⟨w.heap.size,i * 30+j,none⟩) HT.out.1).trans fij⟩:w'.cell? ⟨w.heap.size,i * 30+j,none⟩ = some (.bool false)∧w'.frozen? ⟨w.heap.size,i * 30+j,none⟩ = false))
         have hP1:=hid (fun W hW=>QA.out W hW (Tm.pos za i k) hp)
         have hP2:=hid (fun W hW=>QB.out W hW j hj)
         have pl3:=Tm.err_len (Tm.part_err Ea.out hp)
         have hE3:=hid (fun W x3 c3 x4 c4 h3 h4=>same_any (Tm.part za (Tm.pos za i k)) (Tm.part zb j) x3 x4 c3 c4 W h3 h4 (by unfold maxLen;omega))
         have hq:Hid (sameB (Tm.part za (Tm.pos za i k)) (Tm.part zb j) = Tm.sm za zb (Tm.pos za i k) j):=rfl
         rw [hq.out] at hE3
         clear pl3
         generalize Tm.sm za zb (Tm.pos za i k) j = sq at *
         generalize Tm.part za (Tm.pos za i k) = Pa at *
         generalize Tm.part zb j = Pb at *
         go_wp2_with fail
         go_region_with (first
          | (go_at_call_of 94 (Value.slice (some ⟨ba,fa,none⟩) za.length ca);refine (hP1.out _ ?_).mono ?_;exact below_drew1 Bw;clear hP1;rintro e w3 ⟨v3,rfl,hN3,b3⟩;obtain ⟨x3,c3,rfl,hI3,_⟩:=New.ints hN3;have d3:Below wr.heap.size wr w3:=⟨b3.os,b3.tape,b3.output,b3.size,b3.block⟩;have e3:=Bw.trans (d3.mono Bw.size))
          | (go_at_call_of 94 (Value.slice (some ⟨bb,fb,none⟩) zb.length cb);refine (hP2.out _ ?_).mono ?_;exact e3;clear hP2;rintro e w4 ⟨v4,rfl,hN4,b4⟩;obtain ⟨x4,c4,rfl,hI4,_⟩:=New.ints hN4;have d4:Below wr.heap.size wr w4:=d3.trans (b4.mono d3.size);have hE4:=hid (hE3.out w4 x3 c3 x4 c4 ((hI3.below b4).mono b4.size) hI4))
          | (go_at_call 25;refine hE4.out.mono ?_;clear hE4;rintro e w5 ⟨rfl,b5⟩;have d5:Below wr.heap.size wr w5:=d4.trans (b5.mono d4.size);obtain ⟨c5,f5⟩:=hCi.out w5 d5))
         all_goals (
          go_wp2
          go_roundw
          case rel=>exact ⟨k+1,by omega,by go_num,by rw [hv1.out];exact hset.out w5 d5 sq,keep_setD (HK.out.trans (Keep.of_below (d5.mono HK.out.size))) _⟩
          case measure=>simp [intOf];omega)
      ·obtain rfl:k = X.length:=by omega
       have cij:=hT.on (by omega) (by omega)
       obtain ⟨_,_,e5,_,ci⟩:=HA.out wr Bw i hi
       cases e5
       obtain ⟨_,_,e6,_,cj⟩:=HB.out wr Bw j hj
       cases e6
       have hi':(i:Int) < (za.length:Int):=by omega
       have hj':(j:Int) < (zb.length:Int):=by omega
       have hsA:=hid (fun (h:za[i]?.getD 0 < 0)=>show Tm.sy rk za zb i j = false by unfold Tm.sy;rw [decide_eq_false (by omega)];rfl)
       have hsB:=hid (fun (h:zb[j]?.getD 0 < 0)=>show Tm.sy rk za zb i j = false by unfold Tm.sy;rw [decide_eq_false (p:=0≤zb[j]?.getD 0) (by omega)];simp)
       have hsP:=hid (fun h1 h2=>sy_pos (rk:=rk) (i:=i) (j:=j) (za:=za) (zb:=zb) h1 h2)
       have kf:=Tm.known_lt (Tm.all_at (Tm.err_all Ea.out) hi)
       have kg:=Tm.known_lt (Tm.all_at (Tm.err_all Eb.out) hj)
       have Hstep:=hid (fun q (hq:q = Tm.ab rk za zb i j)=>show up2 (tbf rk za zb i (j+1)) i j q = tbf rk za zb i j by rw [hq];exact tbf_step hi hj)
       rw [← Hlx.out,← Hly.out] at hsP
       have CI:=hid (fun W (hW:Below w.heap.size w W)=>show W.cell? ⟨ba,fa+i,none⟩ = some (.int .i64 (za[i]?.getD 0)) by
        obtain ⟨_,_,e,_,c⟩:=HA.out W hW i hi
        cases e;exact c)
       have CJ:=hid (fun W (hW:Below w.heap.size w W)=>show W.cell? ⟨bb,fb+j,none⟩ = some (.int .i64 (zb[j]?.getD 0)) by
        obtain ⟨_,_,e,_,c⟩:=HB.out W hW j hj
        cases e;exact c)
       have CR:=hid (fun W (hW:Below w.heap.size w W) n (hn:n < 6)=>show W.cell? ⟨br,fr+n,none⟩ = some (.int .i64 (rk[n]?.getD 0)) by
        obtain ⟨_,_,e,_,c⟩:=HR.out W hW n (by rw [Hr.out];exact hn)
        cases e;exact c)
       generalize za[i]?.getD 0 = s1 at *
       generalize zb[j]?.getD 0 = s2 at *
       by_cases h1:s1 < 0
       ·have hz:=hid (hsA.out h1)
        go_wp2
        go_roundw
        case rel=>exact Rel2.next hj (hT.eq (Hstep.out _ (by rw [Hab.out,hz.out,Bool.or_false]))) Bw (by go_num)
        case measure=>simp [intOf]
       by_cases h2:s2 < 0
       ·have hz:=hid (hsB.out h2)
        have h1':decide (s1 < 0) = false:=by simpa using h1
        go_wp2
        go_roundw
        case rel=>exact Rel2.next hj (hT.eq (Hstep.out _ (by rw [Hab.out,hz.out,Bool.or_false]))) Bw (by go_num)
        case measure=>simp [intOf]
       have h1':decide (s1 < 0) = false:=by simpa using h1
       have h2':decide (s2 < 0) = false:=by simpa using h2
       obtain ⟨f,rfl⟩:=Int.eq_ofNat_of_zero_le (show 0≤s1 by omega)
       obtain ⟨g,rfl⟩:=Int.eq_ofNat_of_zero_le (show 0≤s2 by omega)
       have hsq:=hid (hsP.out (by omega) (by omega))
       clear hsA hsB hsP h1 h2
       cases hv:Tm.bp rk za zb i j X.length with
       | true =>
        rw [hv] at cij Hab hT
        have hz:=hid (show Tm.ab rk za zb i j = true by rw [Hab.out];rfl)
        clear hv
        go_wp2
        go_roundw
        case rel=>exact Rel2.next hj (hT.eq (Hstep.out _ hz.out.symm)) Bw (by go_num)
        case measure=>simp [intOf]
       | false =>
        rw [hv] at cij Hab hT
        have Hz:=hid (show Tm.ab rk za zb i j = Tm.sy rk za zb i j by rw [Hab.out];rfl)
        clear hv Hab
        go_wp2_with fail
        go_loopw [13,14] (fun q v W=>∃ m:Nat,m≤Y.length∧v = .int .i64 (m:Int)∧q = .bool (Tm.ov rk za zb i j m)∧Tab W w.heap.size (up2 (tbf rk za zb i (j+1)) i j false)∧Keep w2.heap.size w.heap.size w2 W) (fun _ v _=>Y.length - (intOf v).toNat)
        case atStart=>exact ⟨0,Nat.zero_le _,rfl,rfl,hT,hK⟩
        case round =>
         clear hT hK cij ci cj Bw
         obtain ⟨m,hm,rfl,rfl,hT,hK⟩:=hrel
         have Bw:Below w.heap.size w wr:=B2.trans ((hK.mono B2.size).below (Nat.le_refl _))
         by_cases hm2:m < Y.length
         ·have hm2':(m:Int) < (Y.length:Int):=by omega
          have hp:=Hpy.out m hm2
          have hpg:=Tm.pos_gt zb j m
          obtain ⟨by',oy,rfl,_,cy⟩:=CY.out wr hK m hm2
          rw [AY.out m hm2] at cy
          have ciy:=hT.off (p:=i) (q:=Tm.pos zb j m) hi hp (.inr ⟨rfl,hpg⟩) (by omega) (by omega)
          have hos:=hid (Tm.ov_succ rk za zb i j m)
          have hp30:(Tm.pos zb j m:Int) < 30:=by omega
          have HT:=hid hT
          have HK:=hid hK
          clear hT hK
          cases hf:Tm.ov rk za zb i j m with
          | false =>
           rw [hf] at hos
           clear hf
           go_wp2_with fail
           go_quiet (fail)
           go_wp2
           go_roundw
           case rel=>exact ⟨m+1,by omega,by go_num,by rw [hos.out];rfl,HT.out.drew _,keep_drewN HK.out _⟩
           case measure=>simp [intOf];omega
          | true =>
           rw [hf] at hos
           clear hf
           generalize Tm.ab rk za zb i (Tm.pos zb j m) = aq at *
           go_wp2_with fail
           go_quiet (fail)
           go_wp2
           go_roundw
           case rel=>exact ⟨m+1,by omega,by go_num,by rw [hos.out];rfl,HT.out.drew _,keep_drewN HK.out _⟩
           case measure=>simp [intOf];omega
         ·obtain rfl:m = Y.length:=by omega
          have ci:=CI.out wr Bw
          have cj:=CJ.out wr Bw
          have cij:=hT.on (by omega) (by omega)
          have fij:=(hT.2 i j (by omega) (by omega)).2
          have hset:=hid (fun W (hT:Tab W w.heap.size (up2 (tbf rk za zb i (j+1)) i j false)) q (hq:q = Tm.ab rk za zb i j)=>(hT.set (i:=i) (j:=j) (by omega) (by omega) q).eq ((up2_up2 _ i j _ q).trans (Hstep.out q hq)))
          by_cases hfg:(f:Int) = (g:Int)
          ·have hfgb:((f:Int) != (g:Int)) = false:=by rw [hfg];simp
           have hxy:X.length = Y.length:=by
            have h3:=Hlx.out
            have h4:=Hly.out
            rw [hfg] at h3
            rw [h3,h4]
           have hsq2:=hsq.out
           rw [if_pos hfg] at hsq2
           have Hq:=hid (Hz.out.trans hsq2)
           have Hxy:=hid hxy
           clear hsq2 hfg hsq Hz hxy
           generalize Tm.ov rk za zb i j Y.length = oq at *
           go_wp2_with fail
           go_quiet (fail)
           go_wp2_with fail
           try simp only [hfgb]
           clear hfgb
           go_loopw [15] (fun v W=>∃ n:Nat,n≤X.length∧v = .int .i64 (n:Int)∧Hid (Tm.sms za zb i j n = true)∧Tab W w.heap.size (up2 (tbf rk za zb i (j+1)) i j false)∧Keep w2.heap.size w.heap.size w2 W) (fun v _=>X.length - (intOf v).toNat)
           case atStart=>exact ⟨0,Nat.zero_le _,rfl,hid rfl,hT.drew _,keep_drewN hK _⟩
           case round =>
            clear hT hK cij ci cj Bw fij
            obtain ⟨n,hn,rfl,hsm,hT,hK⟩:=hrel
            have Bw:Below w.heap.size w wr:=B2.trans ((hK.mono B2.size).below (Nat.le_refl _))
            by_cases hn2:n < X.length
            ·have hn2':(n:Int) < (X.length:Int):=by omega
             have hny:n < Y.length:=by have:=Hxy.out;omega
             have hny':(n:Int) < (Y.length:Int):=by omega
             have hp:=Hpx.out n hn2
             have hpg:=Tm.pos_gt za i n
             have hp2:=Hpy.out n hny
             obtain ⟨bx,ox,rfl,_,cx⟩:=CX.out wr hK n hn2
             rw [AX.out n hn2] at cx
             obtain ⟨by',oy,rfl,_,cy⟩:=CY.out wr hK n hny
             rw [AY.out n hny] at cy
             have HT:=hid hT
             have HK:=hid hK
             have hS:=hid (fun w' (hW:Below wr.heap.size wr w')=>(show w'.cell? ⟨bx,ox+n,none⟩ = some (.int .i64 (Tm.pos za i n:Int))∧w'.cell? ⟨by',oy+n,none⟩ = some (.int .i64 (Tm.pos zb j n:Int)) from
              ⟨(hW.cell (p:=⟨bx,ox+n,none⟩) (lt_of_cell cx)).trans cx,(hW.cell (p:=⟨by',oy+n,none⟩) (lt_of_cell cy)).trans cy⟩))
             have hP1:=hid (fun W hW=>QA.out W hW (Tm.pos za i n) hp)
             have hP2:=hid (fun W hW=>QB.out W hW (Tm.pos zb j n) hp2)
             have pl3:=Tm.err_len (Tm.part_err Ea.out hp)
             have hE3:=hid (fun W x3 c3 x4 c4 h3 h4=>same_any (Tm.part za (Tm.pos za i n)) (Tm.part zb (Tm.pos zb j n)) x3 x4 c3 c4 W h3 h4 (by unfold maxLen;omega))
             have hq:Hid (sameB (Tm.part za (Tm.pos za i n)) (Tm.part zb (Tm.pos zb j n)) = Tm.sm za zb (Tm.pos za i n) (Tm.pos zb j n)):=rfl
             rw [hq.out] at hE3
             have hsn:=hid (Tm.sms_succ za zb i j n)
             have hfd:=hid (fun h=>Tm.fd_at (rk:=rk) hn2 hsm.out h)
             have hp30:(Tm.pos za i n:Int) < 30:=by omega
             have hq30:(Tm.pos zb j n:Int) < 30:=by omega
             clear pl3 hq hT hK
             cases hsv:Tm.sm za zb (Tm.pos za i n) (Tm.pos zb j n) with
             | true =>
              rw [hsv] at hE3 hsn
              clear hsv hfd
              go_wp2_with fail
              have hS0:=hS.out wr (Below.refl _ _)
              go_region_held3 (fun w'=>w'.cell? ⟨bx,ox+n,none⟩ = some (.int .i64 (Tm.pos za i n:Int))∧w'.cell? ⟨by',oy+n,none⟩ = some (.int .i64 (Tm.pos zb j n:Int))) (first | assumption | exact hS.out wr (Below.refl _ _) | exact hS.out _ (below_drew1 (Below.refl _ wr))) (first
               | (go_at_call_of 94 (Value.slice (some ⟨ba,fa,none⟩) za.length ca);refine (hP1.out _ (below_drew1 Bw)).mono ?_;clear hP1;rintro e w3 ⟨v3,rfl,hN3,b3⟩;obtain ⟨x3,c3,rfl,hI3,_⟩:=New.ints hN3;have d3:Below wr.heap.size wr w3:=⟨b3.os,b3.tape,b3.output,b3.size,b3.block⟩;have hS3:=hS.out w3 d3;have e3:=Bw.trans (d3.mono Bw.size))
               | (go_at_call_of 94 (Value.slice (some ⟨bb,fb,none⟩) zb.length cb);refine (hP2.out w3 e3).mono ?_;clear hP2;rintro e w4 ⟨v4,rfl,hN4,b4⟩;obtain ⟨x4,c4,rfl,hI4,_⟩:=New.ints hN4;have d4:Below wr.heap.size wr w4:=d3.trans (b4.mono d3.size);have hS4:=hS.out w4 d4;have hE4:=hid (hE3.out w4 x3 c3 x4 c4 ((hI3.below b4).mono b4.size) hI4))
               | (go_at_call 25;refine hE4.out.mono ?_;clear hE4;rintro e w5 ⟨rfl,b5⟩;have d5:Below wr.heap.size wr w5:=d4.trans (b5.mono d4.size);have hS5:=hS.out w5 d5))
              all_goals (
               go_wp2
               go_roundw
               case rel=>exact ⟨n+1,by omega,by go_num,hid (by rw [hsn.out,hsm.out];rfl),HT.out.below d5,HK.out.trans (Keep.of_below (d5.mono HK.out.size))⟩
               case measure=>simp [intOf];omega)
             | false =>
              have Hfd:=hid (hfd.out hsv)
              rw [hsv] at hE3
              clear hsv hfd hsn
              go_wp2_with fail
              have hS0:=hS.out wr (Below.refl _ _)
              go_region_held3 (fun w'=>w'.cell? ⟨bx,ox+n,none⟩ = some (.int .i64 (Tm.pos za i n:Int))∧w'.cell? ⟨by',oy+n,none⟩ = some (.int .i64 (Tm.pos zb j n:Int))) (first | assumption | exact hS.out wr (Below.refl _ _) | exact hS.out _ (below_drew1 (Below.refl _ wr))) (first
               | (go_at_call_of 94 (Value.slice (some ⟨ba,fa,none⟩) za.length ca);refine (hP1.out _ (below_drew1 Bw)).mono ?_;clear hP1;rintro e w3 ⟨v3,rfl,hN3,b3⟩;obtain ⟨x3,c3,rfl,hI3,_⟩:=New.ints hN3;have d3:Below wr.heap.size wr w3:=⟨b3.os,b3.tape,b3.output,b3.size,b3.block⟩;have hS3:=hS.out w3 d3;have e3:=Bw.trans (d3.mono Bw.size))
               | (go_at_call_of 94 (Value.slice (some ⟨bb,fb,none⟩) zb.length cb);refine (hP2.out w3 e3).mono ?_;clear hP2;rintro e w4 ⟨v4,rfl,hN4,b4⟩;obtain ⟨x4,c4,rfl,hI4,_⟩:=New.ints hN4;have d4:Below wr.heap.size wr w4:=d3.trans (b4.mono d3.size);have hS4:=hS.out w4 d4;have hE4:=hid (hE3.out w4 x3 c3 x4 c4 ((hI3.below b4).mono b4.size) hI4))
               | (go_at_call 25;refine hE4.out.mono ?_;clear hE4;rintro e w5 ⟨rfl,b5⟩;have d5:Below wr.heap.size wr w5:=d4.trans (b5.mono d4.size);have hS5:=hS.out w5 d5))
              all_goals (
               obtain ⟨cx5,cy5⟩:=hS.out w5 d5
               have T5:=HT.out.below d5
               have cij:=T5.on (by omega) (by omega)
               have fij:=(T5.2 i j (by omega) (by omega)).2
               have cpq:=T5.off (p:=Tm.pos za i n) (q:=Tm.pos zb j n) hp hp2 (.inl hpg) (by omega) (by omega)
               have B5:=Bw.trans (d5.mono Bw.size)
               have B6:=hid (fun q=>(below_setB B5 (o:=i * 30+j) q:Below w.heap.size w (w5.setCell ⟨w.heap.size,i * 30+j,none⟩ (.bool q))))
               have HT5:=hid T5
               rw [← Hfd.out] at cpq
               clear hS hS0 T5 hE3 cx cy
               generalize Tm.fd rk za zb i j X.length = dq at *
               cases oq with
               | true =>
                go_wp2_with fail
                go_big_region
                all_goals (
                 go_wp2
                 go_roundw
                 case rel=>exact Rel2.next hj ((hset.out w5 HT5.out dq (by rw [Hq.out];rfl)).drew 1) (below_drew1 (B6.out dq)) (by go_num)
                 case measure=>simp [intOf])
               | false =>
                go_wp2_with fail
                go_big_region
                all_goals (
                 go_wp2
                 go_roundw
                 case rel=>exact Rel2.next hj ((hset.out w5 HT5.out false (by rw [Hq.out];rfl)).drew 1) (below_drew1 (B6.out false)) (by go_num)
                 case measure=>simp [intOf]))
            ·obtain rfl:n = X.length:=by omega
             have hz:=hid (show Tm.ab rk za zb i j = false by rw [Hq.out,Tm.fd_same hsm.out,Bool.and_false])
             go_wp2
             go_roundw
             case rel=>exact Rel2.next hj (hT.eq (Hstep.out _ hz.out.symm)) Bw (by go_num)
             case measure=>simp [intOf]
          ·have hfgb:((f:Int) != (g:Int)) = true:=by simpa using hfg
           have hsq2:=hsq.out
           rw [if_neg hfg] at hsq2
           have Hq:=hid (Hz.out.trans hsq2)
           have kf6:f < 6:=by omega
           have kg6:g < 6:=by omega
           have cf:=CR.out wr Bw f kf6
           have cg:=CR.out wr Bw g kg6
           have hrf:Hid (Tm.rankOf rk (f:Int) = rk[f]?.getD 0):=rfl
           have hrg:Hid (Tm.rankOf rk (g:Int) = rk[g]?.getD 0):=rfl
           rw [hrf.out,hrg.out] at Hq
           have hfl:(f:Int) < (rk.length:Int):=by have:=Hr.out;omega
           have hgl:(g:Int) < (rk.length:Int):=by have:=Hr.out;omega
           have HT5:=hid (hT.drew)
           have B6:=hid (fun q=>(below_setB Bw (o:=i * 30+j) q:Below w.heap.size w (wr.setCell ⟨w.heap.size,i * 30+j,none⟩ (.bool q))))
           clear hsq2 hfg hsq Hz hrf hrg kf6 kg6
           generalize Tm.ov rk za zb i j Y.length = oq at *
           generalize rk[f]?.getD 0 = rf at *
           generalize rk[g]?.getD 0 = rg at *
           cases oq with
           | true =>
            go_wp2_with fail
            go_quiet (fail)
            go_wp2_with fail
            go_big_region
            all_goals (
             go_wp2
             go_roundw
             case rel=>exact Rel2.next hj (hset.out _ (hT.drew _) (decide (rg < rf)) (by rw [Hq.out];rfl)) (below_setB (below_drewN Bw _) _) (by go_num)
             case measure=>simp [intOf])
           | false =>
            go_wp2_with fail
            go_quiet (fail)
            go_wp2_with fail
            go_big_region
            all_goals (
             go_wp2
             go_roundw
             case rel=>exact Rel2.next hj (hset.out _ (hT.drew _) false (by rw [Hq.out];rfl)) (below_setB (below_drewN Bw _) _) (by go_num)
             case measure=>simp [intOf])
    ·rw [tbf_end] at hT
     go_wp2
     go_roundw
     case rel=>exact Rel1.next hi hT hBw (by go_num)
     case measure=>simp [intOf]
  ·have hc:=(hT.2 0 0 (by omega) (by omega)).1
   have h0:tb0 rk za zb 0 0 0 = Tm.ab rk za zb 0 0:=by unfold tb0;rw [if_pos ⟨pa,pb,Nat.le_refl _⟩]
   rw [h0] at hc
   simp only [Nat.zero_mul,Nat.zero_add] at hc
   go_wp2
   go_ret
   exact ⟨rfl,hBw⟩
end Go.Proofs.YtglohanbpjaieaaGreat
