/-
  Parts of the proof: RRef4.
-/
import Derived.Test.YtglohanbpjaieaaGreatBru24
set_option maxHeartbeats 2000000
set_option maxRecDepth 100000
namespace Go.Proofs.YtglohanbpjaieaaGreat
open Go.Proofs Go.RowKit Go.Shelf Go.Maps
section
attribute [local go_sem ↓] Go.wp_at_zero Go.wp_at_succ
theorem Tm.KM {ss:List (List Int)} {R:List Int} (hs:Tm.dO ss = 0) (k8:∀ k,k < R.length→-8≤R[k]?.getD 0) (hp:0 < R.length):0 < (Tm.applied ss R).length:=by
 cases R with
 | nil=>simp at hp
 | cons s l =>
  rw [Tm.fK,List.length_append];by_cases h0:s < 0
  ·have:=Tm.bM (Tm.sP (Terms.of hs) (by simpa using k8 0 hp) h0)
   omega
  ·rw [Tm.rA (by omega)]
   simp only [List.length_cons,List.length_nil];omega
theorem ES {ops:Array Oper} {rest:List Oper} {o:Oper} {a:Act} {Q:Exit→Act→World→Prop} (w:World) (hgd:o.guard = none) (s x:Operand)
 (ho:o.op = .call { callee:=.builtin .append,args:=#[s,x],argTypes:=#[43,43] }) (base:Nat) (v:Value) (iN:jh) (hs:a.eval s = v) (hN:fI base w v iN)
 (u:Value) (r p:Nat) (t:List Int) (B:Nat) (hx:a.eval x = .slice (some ⟨B,0,none⟩) 1 1) (hB0:w.cell? ⟨B,0,none⟩ = some (.int .i64 (r:Int))) (hB1:w.cell? ⟨B,1,none⟩ = some (.int .i64 (p:Int))) (hB2:w.cell? ⟨B,2,none⟩ = some u) (hu:New base w u t) (hlen:iN.length≤1000000) (hbase:base≤w.heap.size)
 (h:∀ v' w',fI base w' v' (iN++[(r,p,t)])→Below base w w'→wpList Tryz.prog ops Q rest (a.put o.dst v') w'):wpList Tryz.prog ops Q (o :: rest) a w:=by
 obtain ⟨i0,hi,hz0,hz1,hz2⟩:=info_parts Tryz.SF;obtain ⟨us,h1,h2⟩:=hN;have zi:us.length = iN.length * 3:=h1.1;refine wpList_append_own w hgd s x 43 ho base 53 i0 (.agg #[.int .i64 0,.int .i64 0,.slice none 0 0]) 3 40 Tryz.Gi hi hz0 hz1 hz2 rfl (by decide) v iN.length us hs h1 ⟨B,0,none⟩ 1 1 [.int .i64 (r:Int),.int .i64 (p:Int),u] hx (by simp)
  (by intro j z hj
      match j,hj with
      | 0,hj=>simp at hj;subst hj;rw [Go.WideShapes.add_plain];simpa using hB0
      | 1,hj=>simp at hj;subst hj;rw [Go.WideShapes.add_plain];simpa using hB1
      | 2,hj=>simp at hj;subst hj;rw [Go.WideShapes.add_plain];simpa using hB2)
  (by intro z hz;simp at hz;obtain ⟨_,_,rfl,_⟩:=New.ints hu;rcases hz with rfl | rfl | rfl <;> rfl) (by unfold maxLen;omega) (by omega) hbase ?_
 intro v' w' hown hg _;have hkeep:∀ (u':Value) (t':List Int),New base w u' t'→New base w' u' t':=fun u' t' hN'=>World.ownsRow.kept hN' hg (New.SE hN' h1)
 refine h v' w' ⟨us++[.int .i64 (r:Int),.int .i64 (p:Int),u],by simpa using hown,fun j hj=>?_⟩ ((Below.refl base w).grown hg hbase (fun k e=>(World.ownsRow.lt h1 k e).1));by_cases hjl:j < iN.length
 ·obtain ⟨u',q1,q2,q3,hN'⟩:=h2 j hjl
  rw [List.getElem?_append_left hjl,List.getElem?_append_left (by omega),List.getElem?_append_left (by omega),List.getElem?_append_left (by omega)];exact ⟨u',q1,q2,q3,hkeep u' _ hN'⟩
 ·have Eh:j = iN.length:=by simp at hj;omega
  subst Eh;rw [List.getElem?_append_right (Nat.le_refl _),List.getElem?_append_right (by omega),List.getElem?_append_right (by omega),List.getElem?_append_right (by omega),zi];refine ⟨u,by simp,by simp,by simp,?_⟩;simpa using hkeep u t hu
theorem zH (rs:aH) (t:List Int) (al at':Option Addr) (cl ct:Nat) (w:World) (hr:Tm.aO rs = 0) (ht:Tm.err t = 0) (hR:aJ w.heap.size w al rs) (hT:Ints w.heap.size w at' t) (h1:t.length≤ct) (h2:ct≤maxLen) :
 Calls Tryz.prog 87 #[.slice al rs.length cl,.slice at' t.length ct] w fun e w'=>fP rs t w e w':=by
 have l30:=Tm.aI ht;have Vw:=Tm.bM ht;obtain ⟨h8,hall⟩:=Tm.di hr;have VE:=hid (show Tm.bn rs t = Tm.mf rs t t.length by unfold Tm.bn;rw [if_pos hr,if_pos ht]);have HR:=hid hR;have HT:=hid hT;have nH:=hid hall;have Ht:=hid ht;have OU:(t.length:Int)≤30:=by omega
 have h8':(rs.length:Int)≤8:=by omega
 clear hR hT hall hr ht;go_enter Tryz.func87,Tryz.ntmps87;go_wp2;go_loopw [6,7] (fun ov v wr=>∃ m:Nat,m≤t.length∧v = .int .i64 (m:Int)∧(∃ oa oc,ov = .slice oa (Tm.jO rs t m).length oc)∧Hid (fI w.heap.size wr ov (Tm.jO rs t m))∧Hid (Tm.mf rs t m = 0)∧Below w.heap.size w wr) (fun _ v _=>t.length - (intOf v).toNat)
 case atStart=>exact ⟨0,Nat.zero_le _,rfl,⟨none,0,rfl⟩,hid (fI.nil _ _),hid rfl,Below.refl _ _⟩
 case round =>
  obtain ⟨m,hm,rfl,⟨oa,oc,rfl⟩,hN,hno,hB⟩:=hrel;by_cases hlt:m < t.length
  ·have hlt':(m:Int) < (t.length:Int):=by omega
   obtain ⟨n0,hn0⟩:∃ n0,(Tm.jO rs t m).length = n0:=⟨_,rfl⟩;rw [hn0] at hN ⊢;have hN0:Hid (fI w.heap.size wr (.slice oa n0 oc) (Tm.jO rs t m++Tm.lK rs t m 0)):=by rw [Tm.lK,List.append_nil];exact hN
   obtain ⟨w0,hw0⟩:∃ w0,w0 = wr:=⟨_,rfl⟩;rw [← hw0] at hN0 hB ⊢;clear hw0 hN;go_wp2;go_loopw [6,8] (fun ov v wr=>∃ k:Nat,k≤rs.length∧v = .int .i64 (k:Int)∧(∃ oa oc,ov = .slice oa (Tm.jO rs t m++Tm.lK rs t m k).length oc)∧Hid (fI w.heap.size wr ov (Tm.jO rs t m++Tm.lK rs t m k))∧Hid (Tm.rowE rs t m k = 0)∧Below w.heap.size w wr) (fun _ v _=>rs.length - (intOf v).toNat)
   case atStart=>exact ⟨0,Nat.zero_le _,rfl,⟨oa,oc,by rw [Tm.lK,List.append_nil,hn0]⟩,hN0,hid rfl,hB⟩
   case round =>
    obtain ⟨k,hk,rfl,⟨oa,oc,rfl⟩,hN,hrow,hB⟩:=hrel;by_cases hlk:k < rs.length
    ·have al5:(k:Int) < (rs.length:Int):=by omega
     obtain ⟨b,off,rfl,hb,aL,Qd,aR,cR,g1,g2,g3,g4,g5,g6,g7,g8⟩:=(HR.out.below hB) k hlk;obtain ⟨eL,eR,_⟩:=Tm.bI (nH.out k hlk);have hbw:b < wr.heap.size:=Nat.lt_of_lt_of_le hb hB.size;have hno':=hid (Tm.OM (rs:=rs) (t:=t) hrow.out);have hye:=hid (Tm.JZ (rs:=rs) (t:=t) hrow.out);have hLn:=hid (Tm.OO (rs:=rs) (t:=t) (a:=m) (n:=k));have Vd:=hid (Tm.J2 (rs:=rs) (t:=t) (a:=m) (n:=k));have hstop:=hid (Tm.Gf (rs:=rs) (t:=t) hno.out hrow.out hlt hlk);have hbf:=Tm.J4 (rs:=rs) (k:=k) eL Ht.out hlt;have hhf:=hid (fun mm hmm=>Tm.OP (rs:=rs) (k:=k) (m:=mm) eL eR Ht.out hlt hmm);have hsub:=hid (fun mm hmm=>Tm.qH (m:=mm) eL (Tm.dC Ht.out hlt) hmm);have hle:=hid (show (Tm.jO rs t m++Tm.lK rs t m k).length≤1000000 by
      have q1:=Tm.Im rs t m;have q2:=Tm.Il rs t m k;have q3:m * rs.length≤30 * 8:=Nat.mul_le_mul (by omega) h8;rw [List.length_append];omega)
     generalize (rs[k]?.getD ([],[])).1 = L at *;generalize (rs[k]?.getD ([],[])).2 = R at *;have hS:=hid (fun w' (hW:Below wr.heap.size wr w')=>(show w'.cell? ⟨b,off+k * 2,none⟩ = some (.slice aL L.length Qd)∧w'.cell? ⟨b,off+k * 2+1,none⟩ = some (.slice aR R.length cR) from
      ⟨(hW.cell (p:=⟨b,off+k * 2,none⟩) hbw).trans g1,(hW.cell (p:=⟨b,off+k * 2+1,none⟩) hbw).trans g2⟩))
     have iT:=hid (fun X (hX:Below wr.heap.size wr X)=>show Ints X.heap.size X at' t by have hb:=hB.trans (hX.mono hB.size);exact (HT.out.below hb).mono hb.size);have iL:=hid (fun X (hX:Below wr.heap.size wr X)=>((g3.mono hB.size).below hX).mono hX.size);have iR:=hid (fun X (hX:Below wr.heap.size wr X)=>((g4.mono hB.size).below hX).mono hX.size);have hP:=hid (fun X (hX:Below wr.heap.size wr X)=>mE t at' ct m X (iT.out X hX) h1 h2 Ht.out hlt);have hF:=hid (fun X (hX:Below wr.heap.size wr X) ap cp (hp:Ints X.heap.size X ap (Tm.part t m)) hc1 hc2=>ET L (Tm.part t m) aL ap Qd cp X eL (Tm.dC Ht.out hlt) (iL.out X hX) hp ⟨g5,g6⟩ ⟨hc1,hc2⟩);have lR:=Tm.aI eR;have kR:=Tm.lH eR;have pR:=Tm.bM eR;clear g3 g4 g5 g6 g7 g8 eL eR;obtain ⟨acc,hacc⟩:∃ acc,Tm.jO rs t m++Tm.lK rs t m k = acc:=⟨_,rfl⟩;rw [hacc] at hN hle ⊢;have Qe:=hid hacc;clear hacc;rw [hbf] at hno' hye hLn Vd hstop;clear hbf;cases hf:Tm.fit L (Tm.part t m) with
     | none =>
      rw [hf] at hF hno' hLn;have Hn:=hid (hno'.out rfl);have Hl:=hid (hLn.out rfl);clear hno' hLn hye Vd hstop hf hhf hsub;go_wp2_with fail;go_region_held3 (fun w'=>w'.cell? ⟨b,off+k * 2,none⟩ = some (.slice aL L.length Qd)∧w'.cell? ⟨b,off+k * 2+1,none⟩ = some (.slice aR R.length cR)) (first | assumption | exact ⟨g1,g2⟩) (first
       | (go_at_call 94;refine (hP.out _ (dn (Below.refl _ wr))).mono ?_;clear hP;rintro e w2 ⟨v2,rfl,eH,b2⟩;obtain ⟨x2,c2,rfl,i2,q1,q2⟩:=New.ints eH;have b3:Below wr.heap.size wr w2:=⟨b2.os,b2.tape,b2.output,b2.size,b2.block⟩;have hS2:=hS.out w2 b3)
       | (go_at_call 112;refine (hF.out w2 b3 x2 c2 i2 q1 q2).mono ?_;clear hF;rintro e w4 ⟨v4,rfl,gI,b4⟩;obtain ⟨x4,c4,rfl,i4,_⟩:=gI.subs;have b5:Below wr.heap.size wr w4:=b3.trans (b4.mono b3.size);have DJ:=hS.out w4 b5))
      all_goals (
       go_wp2;go_roundw
       case rel=>exact ⟨k+1,by omega,by go_num,⟨oa,oc,by rw [Hl.out,Qe.out]⟩,hid (by rw [Hl.out,Qe.out];exact hN.out.below b5),hid Hn.out,hB.trans (b5.mono hB.size)⟩
       case measure=>simp [intOf];omega)
     | some mm =>
      obtain ⟨e1,e2⟩:=hhf.out mm hf;have hsb:=Tm.kv (hsub.out mm hf);have hsh:=ow.Tt hsb.2;have hap:=Tm.jy hsh R;have hpo:=Tm.KM (hsub.out mm hf) kR pR;have hA:=hid (fun X (hX:Below wr.heap.size wr X) sa sc (hs:gu X.heap.size X sa (Tm.gp mm 8))=>Kg (Tm.gp mm 8) hsb.1 hsh sa sc R aR cR lR kR X hs (iR.out X hX));have l8:(Tm.gp mm 8).length = 8:=hsb.1;have hPt:=hid (fun X (hX:Below wr.heap.size wr X) ua uc (hu:Ints X.heap.size X ua (Tm.applied (Tm.gp mm 8) R))=>Kq t (Tm.applied (Tm.gp mm 8) R) at' ua ct uc m X (iT.out X hX) hu h1 h2 Ht.out (by omega) hpo hlt);rw [hf] at hF hye Vd hstop;simp only [Tm.fitOut] at hF;generalize Tm.gp mm 8 = ss at *;generalize Tm.applied ss R = us at *;have hpl:=hid (show (Tm.put t m us).length≤1000 by
       unfold Tm.put;simp only [List.length_append,List.length_take,List.length_drop];omega)
      by_cases jD:30 < (Tm.put t m us).length
      ·rw [if_pos jD] at e1
       have hst:=hid (hstop.out rfl (by rw [e1];decide));rw [e1] at hst;have hv:=hid (show Tm.bD rs t = [] by unfold Tm.bD;rw [VE.out,hst.out,if_neg (by decide)]);have agO:(30:Int) < ((Tm.put t m us).length:Int):=by omega
       clear e1 e2 hye Vd hstop hf hhf hsub hno' hLn jD;generalize Tm.put t m us = pv at *;go_wp2_with fail;go_region_held3 (fun w'=>w'.cell? ⟨b,off+k * 2,none⟩ = some (.slice aL L.length Qd)∧w'.cell? ⟨b,off+k * 2+1,none⟩ = some (.slice aR R.length cR)) (first | assumption | exact ⟨g1,g2⟩) (first
        | (go_at_call 94;refine (hP.out _ (dn (Below.refl _ wr))).mono ?_;clear hP;rintro e w2 ⟨v2,rfl,eH,b2⟩;obtain ⟨x2,c2,rfl,i2,q1,q2⟩:=New.ints eH;have b3:Below wr.heap.size wr w2:=⟨b2.os,b2.tape,b2.output,b2.size,b2.block⟩;have hS2:=hS.out w2 b3)
        | (go_at_call 112;refine (hF.out w2 b3 x2 c2 i2 q1 q2).mono ?_;clear hF;rintro e w4 ⟨v4,rfl,gI,b4⟩;obtain ⟨x4,c4,rfl,i4,_⟩:=gI.subs;have b5:Below wr.heap.size wr w4:=b3.trans (b4.mono b3.size);have DJ:=hS.out w4 b5;rw [l8]))
       all_goals (
        obtain ⟨s1,s2⟩:=hS.out w4 b5;go_wp2_with (first
         | (go_at_call 114;refine (hA.out w4 b5 x4 c4 i4).mono ?_;clear hA;rintro e w6 ⟨v6,rfl,IM,b6⟩;obtain ⟨x6,c6,rfl,i6,_⟩:=New.ints IM;have b7:Below wr.heap.size wr w6:=b5.trans (b6.mono b5.size))
         | (go_at_call 113;refine (hPt.out w6 b7 x6 c6 i6).mono ?_;clear hPt;rintro e w8 ⟨v8,rfl,yD,b8⟩;obtain ⟨x8,c8,rfl,_⟩:=New.ints yD;have b9:Below wr.heap.size wr w8:=b7.trans (b8.mono b7.size)))
        go_ret2
        exact ⟨.slice none 0 0,by rw [VE.out,hst.out];rfl,by rw [hv.out];exact fI.nil _ _,hB.trans (b9.mono hB.size)⟩)
      ·rw [if_neg jD] at e1 e2
       have Hy:=hid (hye.out rfl e1);have Hl:=hid (Vd.out rfl);rw [e2] at Hl;have agO:((Tm.put t m us).length:Int)≤30:=by omega
       clear e1 e2 hye Vd hstop hf hhf hsub hno' hLn jD;generalize Tm.put t m us = pv at *;go_wp2_with fail;go_region_held3 (fun w'=>w'.cell? ⟨b,off+k * 2,none⟩ = some (.slice aL L.length Qd)∧w'.cell? ⟨b,off+k * 2+1,none⟩ = some (.slice aR R.length cR)) (first | assumption | exact ⟨g1,g2⟩) (first
        | (go_at_call 94;refine (hP.out _ (dn (Below.refl _ wr))).mono ?_;clear hP;rintro e w2 ⟨v2,rfl,eH,b2⟩;obtain ⟨x2,c2,rfl,i2,q1,q2⟩:=New.ints eH;have b3:Below wr.heap.size wr w2:=⟨b2.os,b2.tape,b2.output,b2.size,b2.block⟩;have hS2:=hS.out w2 b3)
        | (go_at_call 112;refine (hF.out w2 b3 x2 c2 i2 q1 q2).mono ?_;clear hF;rintro e w4 ⟨v4,rfl,gI,b4⟩;obtain ⟨x4,c4,rfl,i4,_⟩:=gI.subs;have b5:Below wr.heap.size wr w4:=b3.trans (b4.mono b3.size);have DJ:=hS.out w4 b5;rw [l8]))
       all_goals (
        obtain ⟨s1,s2⟩:=hS.out w4 b5;go_wp2_with (first
         | (go_at_call 114;refine (hA.out w4 b5 x4 c4 i4).mono ?_;clear hA;rintro e w6 ⟨v6,rfl,IM,b6⟩;obtain ⟨x6,c6,rfl,i6,_⟩:=New.ints IM;have b7:Below wr.heap.size wr w6:=b5.trans (b6.mono b5.size))
         | (go_at_call 113;refine (hPt.out w6 b7 x6 c6 i6).mono ?_;clear hPt;rintro e w8 ⟨v8,rfl,yD,b8⟩;obtain ⟨x8,c8,rfl,_⟩:=New.ints yD;have b9:Below wr.heap.size wr w8:=b7.trans (b8.mono b7.size);have El:=(show w.heap.size≤w6.heap.size from Nat.le_trans hB.size b7.size);have yT:=hN.out.below b9;have hBx:Below w8.heap.size w8 (w8.alloc (.cells #[.int .i64 (k:Int),.int .i64 (m:Int),.slice x8 pv.length c8] 53)):=(Below.refl _ w8).alloc (Nat.le_refl _) _;have blk:=World.alloc_heap_new w8 (.cells #[.int .i64 (k:Int),.int .i64 (m:Int),.slice x8 pv.length c8] 53);have e0:(w8.alloc (.cells #[.int .i64 (k:Int),.int .i64 (m:Int),.slice x8 pv.length c8] 53)).cell? ⟨w8.heap.size,0,none⟩ = some (.int .i64 (k:Int)):=(by rw [aM blk];rfl);have e1:(w8.alloc (.cells #[.int .i64 (k:Int),.int .i64 (m:Int),.slice x8 pv.length c8] 53)).cell? ⟨w8.heap.size,1,none⟩ = some (.int .i64 (m:Int)):=(by rw [aM blk];rfl);have e2:(w8.alloc (.cells #[.int .i64 (k:Int),.int .i64 (m:Int),.slice x8 pv.length c8] 53)).cell? ⟨w8.heap.size,2,none⟩ = some (.slice x8 pv.length c8):=(by rw [aM blk];rfl);clear blk)
         | (at_builtin;go_loud (refine ES _ rfl _ _ rfl w.heap.size _ acc rfl (yT.below hBx) (.slice x8 pv.length c8) k m pv w8.heap.size rfl e0 e1 e2 (New.below (yD.mono El) hBx) hle.out (by have:=b8.size;simp;omega) ?_);intro v' w9 SS hB9;obtain ⟨oa9,oc9,rfl⟩:=SS.slice))
        go_roundw
        case rel=>exact ⟨k+1,by omega,by go_num,⟨oa9,oc9,by rw [Hl.out,← List.append_assoc,Qe.out,show (acc++[(k,m,pv)]).length = acc.length+1 from by simp]⟩,hid (by rw [Hl.out,← List.append_assoc,Qe.out];rw [show (acc++[(k,m,pv)]).length = acc.length+1 from by simp] at SS;exact SS),hid Hy.out,((hB.trans (b9.mono hB.size)).trans (hBx.mono (by have:=b8.size;omega))).trans hB9⟩
        case measure=>simp [intOf];omega)
    ·obtain rfl:k = rs.length:=by omega
     go_wp2;go_roundw
     case rel=>exact ⟨m+1,by omega,by go_num,⟨oa,oc,rfl⟩,hN,hid (Tm.Gg hno.out hrow.out),hB⟩
     case measure=>simp [intOf];omega
  ·obtain rfl:m = t.length:=by omega
   have hv:=hid (show Tm.bD rs t = Tm.jO rs t t.length by unfold Tm.bD;rw [VE.out,if_pos hno.out]);go_wp2;go_ret2
   exact ⟨.slice oa (Tm.jO rs t t.length).length oc,by rw [VE.out,hno.out];rfl,by rw [hv.out];exact hN.out,hB⟩
theorem Cy (rs:aH) (t:List Int) (al at':Option Addr) (cl ct:Nat) (w:World) (hR:aJ w.heap.size w al rs) (hT:Ints w.heap.size w at' t) (h1:t.length≤ct) (h2:ct≤maxLen) :
 Calls Tryz.prog 55 #[.slice al rs.length cl,.slice at' t.length ct] w fun e w'=>fP rs t w e w':=by
 have C1:=jR rs al cl w hR;have C2:=hid (fun W (hW:Below w.heap.size w W)=>kE t at' ct W ((hT.below hW).mono hW.size));by_cases hr:Tm.aO rs = 0
 ·rw [hr] at C1
  by_cases ht:Tm.err t = 0
  ·rw [ht] at C2
   have C3:=hid (fun W (hW:Below w.heap.size w W)=>zH rs t al at' cl ct W hr ht ((hR.below hW).mono hW.size) ((hT.below hW).mono hW.size) h1 h2);unfold fP at C3 ⊢;clear hr ht hR hT h1 h2;generalize Tm.bn rs t = q at *;go_enter Tryz.func55,Tryz.ntmps55;go_wp2_with fail;refine C1.mono ?_;rintro e w1 ⟨rfl,b1⟩;go_wp2_with fail;refine (C2.out w1 b1).mono ?_;rintro e w1 ⟨rfl,rfl⟩;go_wp2_with fail;refine (C3.out w1 b1).mono ?_;rintro e w2 ⟨v2,rfl,eH,b2⟩;obtain ⟨va,vc,rfl⟩:=eH.slice;go_wp2;go_ret2
   exact ⟨_,rfl,eH.mono b1.size,b1.trans (b2.mono b1.size)⟩
  ·have e1:Tm.bn rs t = Tm.err t:=by unfold Tm.bn;rw [if_pos hr,if_neg ht]
   have e2:Tm.bD rs t = []:=by unfold Tm.bD;rw [e1,if_neg ht]
   have hne:(Tm.err t != 0) = true:=by simpa using ht
   unfold fP;rw [e1,e2];clear e1 e2 hr ht hR hT h1 h2;generalize Tm.err t = q at *;go_enter Tryz.func55,Tryz.ntmps55;go_wp2_with fail;refine C1.mono ?_;rintro e w1 ⟨rfl,b1⟩;go_wp2_with fail;refine (C2.out w1 b1).mono ?_;rintro e w1 ⟨rfl,rfl⟩;go_wp2;go_ret2
   exact ⟨_,rfl,fI.nil _ _,b1⟩
 ·have e1:Tm.bn rs t = Tm.aO rs:=by unfold Tm.bn;rw [if_neg hr]
  have e2:Tm.bD rs t = []:=by unfold Tm.bD;rw [e1,if_neg hr]
  have hne:(Tm.aO rs != 0) = true:=by simpa using hr
  unfold fP;rw [e1,e2];clear e1 e2 hr hR hT h1 h2 C2;generalize Tm.aO rs = q at *;go_enter Tryz.func55,Tryz.ntmps55;go_wp2_with fail;refine C1.mono ?_;rintro e w1 ⟨rfl,b1⟩;go_wp2;go_ret2
  exact ⟨_,rfl,fI.nil _ _,b1⟩
end
end Go.Proofs.YtglohanbpjaieaaGreat
