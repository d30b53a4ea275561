/-
  Parts of the proof: Nor4, Clo22, Clo17, RRef3, Clo23, PRef3a, Clo24.
-/
import Derived.Test.YtglohanbpjaieaaGreatBru29
import Derived.Test.YtglohanbpjaieaaGreatBru28
import Derived.Test.YtglohanbpjaieaaGreatBru10
set_option maxHeartbeats 8000000
set_option maxRecDepth 100000
namespace Go.Proofs.YtglohanbpjaieaaGreat
open Go.Proofs Go.RowKit Go.Shelf Go.Maps
theorem Tm.Ux {rs:aH} {t:List Int} (h2:Tm.bn rs t = 0) {j:Nat} (hj:j < (Tm.bD rs t).length):Tm.err ((Tm.bD rs t)[j]?.getD (0,0,[])).2.2 = 0:=by
 obtain ⟨hru,ht,hall⟩:=Tm.jQ h2;have hv:Tm.bD rs t = Tm.jO rs t t.length:=by unfold Tm.bD;rw [if_pos h2]
 rw [hv] at hj ⊢;obtain ⟨x,hx⟩:∃ x,(Tm.jO rs t t.length)[j]?.getD (0,0,[]) = x:=⟨_,rfl⟩;have hm:x∈Tm.jO rs t t.length:=by rw [← hx,List.getElem?_eq_getElem hj,Option.getD_some];exact List.getElem_mem hj
 rw [hx];obtain ⟨ha,hk,hb,hu⟩:=Tm.Tf _ hm;have he:=Tm.Ti _ hall _ ha _ hk hb;obtain ⟨eL,eR,_⟩:=Tm.bI ((Tm.di hru).2 _ hk);obtain ⟨m,hs⟩:=Tm.Tk hru ht ha hk hb he;rw [← hu] at hs;exact (hs.parts eL eR ht ha).2.2.2
theorem qQ (rs:aH) (t:List Int) (al at':Option Addr) (cl ct:Nat) (w:World) (hr:Tm.aO rs = 0) (ht:Tm.err t = 0) (hR:aJ w.heap.size w al rs) (hT:Ints w.heap.size w at' t) (h1:t.length≤ct) (h2:ct≤maxLen) :
 Calls Tryz.prog 56 #[.slice al rs.length cl,.slice at' t.length ct] w fun e w'=>∃ v,e = .returned (.tuple #[v,.int .i64 ((Tm.form rs t).2.1:Int),.int .i64 (Tm.form rs t).2.2])∧New w.heap.size w' v (Tm.form rs t).1∧Below w.heap.size w w':=by
 unfold Tm.form;generalize hg:Tm.fm rs 61 t 0 = res;have HR:=hid hR;have Hr:=hid hr;clear hR hr;go_enter Tryz.func56,Tryz.ntmps56;go_wp2;go_loopw [1,7] (fun tv v wr=>∃ (k:Nat) (u:List Int) (a:Option Addr) (c:Nat),k≤60∧v = .int .i64 (k:Int)∧tv = .slice a u.length c∧Hid (Ints wr.heap.size wr a u)∧Hid (Tm.err u = 0)∧u.length≤c∧c≤maxLen∧Hid (Tm.fm rs (61 - k) u k = res)∧Below w.heap.size w wr) (fun _ v _=>61 - (intOf v).toNat)
 case atStart=>exact ⟨0,t,at',ct,by omega,rfl,rfl,hid hT,hid ht,h1,h2,hid hg,Below.refl _ _⟩
 case round =>
  obtain ⟨k,u,a,c,hk,rfl,rfl,hI,hu,hc1,hc2,hst,hB⟩:=hrel;have hC:=hid (zH rs u al a cl c wr Hr.out hu.out ((HR.out.below hB).mono hB.size) hI.out hc1 hc2);obtain ⟨f,hf⟩:∃ f,61 - k = f+1:=⟨60 - k,by omega⟩;rw [hf] at hst;have hki:(k:Int)≤60:=by omega
  unfold fP at hC;by_cases he:Tm.bn rs u = 0
  ·by_cases hn:(Tm.bD rs u).length = 0
   ·have hr:=hid ((Tm.Me (f:=f) (k:=k) he hn).symm.trans hst.out)
    have jD:=Tm.aI hu.out;have hpos:=Tm.bM hu.out;obtain ⟨b,off,ea,_,_⟩:=hI.out.at hpos;subst ea;rw [he,List.eq_nil_of_length_eq_zero hn] at hC;have Hn:=hid hn;clear he hn hst;go_wp2_with (first
     | (go_at_call 87;refine hC.out.mono ?_;clear hC;rintro e w1 ⟨v1,rfl,hN1,b1⟩;obtain ⟨va,vc,rfl⟩:=hN1.slice;clear hN1;have hl:New w1.heap.size (w1.alloc (.cells #[] 3)) (.slice (some ⟨w1.heap.size,0,none⟩) 0 0) []:=New.lit w1.heap.size w1 [] (Nat.le_refl _) (by unfold maxLen;simp);have hBn:Below w1.heap.size w1 (w1.alloc (.cells #[] 3)):=(Below.refl _ _).alloc (Nat.le_refl _) _;have i1:=(hI.out.below b1).mono b1.size;have i2:=(i1.below hBn).mono hBn.size)
     | (at_builtin;go_loud (refine aK _ rfl _ _ rfl w1.heap.size _ [] rfl hl (some ⟨b,off,none⟩) u c rfl (fun h=>by cases h) i2 (by simp;omega) (by simp) ?_);intro v' w2 hN hB2;obtain ⟨xa,xc,rfl,_⟩:=New.ints hN))
    go_ret3
    have B1:=hB.trans (b1.mono hB.size);rw [← hr.out];exact ⟨_,rfl,New.mono hN B1.size,B1.trans ((hBn.trans hB2).mono B1.size)⟩
   ·have hp:0 < (Tm.bD rs u).length:=by omega
    have hr:=hid ((Tm.Tn (f:=f) (k:=k) he hp).symm.trans hst.out);have hue:=hid (Tm.Ux he hp);rw [he] at hC;clear he hn hst hI hu;generalize Tm.bD rs u = iN at *;have hpi:(0:Int) < (iN.length:Int):=by omega
    have hne:((iN.length:Int) == 0) = false:=Eo (by omega);by_cases h60:k = 60
    ·subst h60
     obtain rfl:f = 0:=by omega
     rw [Tm.fm] at hr;go_wp2_with (first
      | (go_at_call 87;refine hC.out.mono ?_;clear hC;rintro e w1 ⟨v1,rfl,hN1,b1⟩;obtain ⟨g,cg,rfl⟩:=hN1.slice;clear hN1))
     go_ret3
     rw [← hr.out];exact ⟨_,rfl,New.nil _ _,hB.trans (b1.mono hB.size)⟩
    ·have ami:((k:Int) == 60) = false:=by rw [beq_eq_false_iff_ne];omega
     have hff:f = 61 - (k+1):=by omega
     rw [hff] at hr;clear hf hff;go_wp2_with (first
      | (go_at_call 87;refine hC.out.mono ?_;clear hC;rintro e w1 ⟨v1,rfl,hN1,b1⟩;obtain ⟨g,cg,rfl,hat⟩:=hN1.at hp;obtain ⟨x0,y0,_,_,c02,i0,q0,q1⟩:=hat 0 hp;clear hat;simp only [Nat.zero_mul,Nat.zero_add] at c02;have HN:=hid hN1;clear hN1;generalize (iN[0]?.getD (0,0,[])).2.2 = u1 at *))
     go_roundw
     case rel=>exact ⟨k+1,u1,x0,y0,by omega,by go_num,rfl,hid i0,hid hue.out,q0,q1,hid hr.out,hB.trans (b1.mono hB.size)⟩
     case measure=>simp [intOf];omega
  ·have hr:=hid ((Tm.Iz (f:=f) (k:=k) he).symm.trans hst.out)
   have hne:(Tm.bn rs u != 0) = true:=by simpa using he
   clear he hst hI hu;generalize Tm.bn rs u = q at *;go_wp2_with (first
    | (go_at_call 87;refine hC.out.mono ?_;clear hC;rintro e w1 ⟨v1,rfl,hN1,b1⟩;obtain ⟨va,vc,rfl⟩:=hN1.slice;clear hN1))
   go_ret3
   rw [← hr.out];exact ⟨_,rfl,New.nil _ _,hB.trans (b1.mono hB.size)⟩
theorem MQ (rs:aH) (t:List Int) (al at':Option Addr) (cl ct:Nat) (w:World) (hR:aJ w.heap.size w al rs) (hT:Ints w.heap.size w at' t) (h1:t.length≤ct) (h2:ct≤maxLen) :
 Calls Tryz.prog 22 #[.slice al rs.length cl,.slice at' t.length ct] w fun e w'=>∃ v,e = .returned (.tuple #[v,.int .i64 ((Tm.form rs t).2.1:Int),.int .i64 (Tm.form rs t).2.2])∧New w.heap.size w' v (Tm.form rs t).1∧Below w.heap.size w w':=by
 have C1:=Cy rs t al at' cl ct w hR hT h1 h2;unfold fP at C1;by_cases he:Tm.bn rs t = 0
 ·obtain ⟨k1,k2,_⟩:=Tm.jQ he
  have C2:=hid (fun W (hW:Below w.heap.size w W)=>qQ rs t al at' cl ct W k1 k2 ((hR.below hW).mono hW.size) ((hT.below hW).mono hW.size) h1 h2);rw [he] at C1;clear he k1 k2 hR hT;generalize Tm.form rs t = res at *;go_enter Tryz.func22,Tryz.ntmps22;go_wp2_with fail;refine C1.mono ?_;rintro e w1 ⟨v1,rfl,hN1,b1⟩;obtain ⟨x1,c1,rfl⟩:=hN1.slice;go_wp2_with fail;refine (C2.out w1 b1).mono ?_;rintro e w2 ⟨v2,rfl,eH,b2⟩;obtain ⟨x2,c2,rfl,_⟩:=New.ints eH;go_wp2;go_ret3
  exact ⟨_,rfl,eH.mono b1.size,b1.trans (b2.mono b1.size)⟩
 ·have hf:Tm.form rs t = ([],0,Tm.bn rs t):=Tm.Iz (f:=60) (k:=0) he
  have hne:(Tm.bn rs t != 0) = true:=by simpa using he
  rw [hf];clear he hf hR hT;generalize Tm.bn rs t = q at *;go_enter Tryz.func22,Tryz.ntmps22;go_wp2_with fail;refine C1.mono ?_;rintro e w1 ⟨v1,rfl,hN1,b1⟩;obtain ⟨x1,c1,rfl⟩:=hN1.slice;go_wp2;go_ret3
  exact ⟨_,rfl,New.nil _ _,b1⟩
theorem Tm.KR {rk:List Int} {rs:aH} {l:ah} {F G:List Int} {er:Int} {rs':aH} {ps':ah} {X Y:List Int} (hd:Tm.dir rk F G = (Tm.jG X,Tm.lU X Y)) (hg:Tm.mQ rs l X Y er rs' ps') :
 ((Tm.dir rk F G).1≠0∧er = (Tm.dir rk F G).1∧rs' = []∧ps' = [])∨((Tm.dir rk F G).1 = 0∧Tm.gW rs l (Tm.dir rk F G).2.1 (Tm.dir rk F G).2.2 er rs' ps'):=by
 rw [hd];rcases hg with ⟨h1,h2⟩ | ⟨h1,h2⟩
 ·exact .inl ⟨h1,h2⟩
 ·refine .inr ⟨h1,?_⟩
  unfold Tm.lU;rw [if_pos h1];exact h2
theorem KS (rk:List Int) (rs:aH) (p:List Int × List Int) (l:ah) (ar al a:Option Addr) (cr cl cap:Nat) (w:World) (hR:Ints w.heap.size w ar rk) (hL:aJ w.heap.size w al rs) (hP:aJ w.heap.size w a (p :: l)) (hzl:al = none→cl = 0) (hc1:l.length+1≤cap) (hc2:cap≤maxLen) (ht:Tm.iB rk rs (p :: l) = 0) :
 Calls Tryz.prog 36 #[.slice ar rk.length cr,.slice al rs.length cl,.slice a (l.length+1) cap] w fun e w'=>∃ er rs' ps' v u m,Tm.fw rk rs (p :: l) er rs' ps'∧e = .returned (.tuple #[v,u,.int .i64 er])∧aU true 54 m m w' v rs'∧aU true 40 m m w' u ps'∧Below w.heap.size w w':=by
 obtain ⟨k1,k2,k3,k4,k5,k6,k7⟩:=Tm.pE ht;have hS:Hid (∀ er rs' ps',((Tm.dM rs p.1 p.2≠0∧er = Tm.dM rs p.1 p.2∧rs' = []∧ps' = []) ∨
  (Tm.dM rs p.1 p.2 = 0∧(Tm.form rs p.1).1 = (Tm.form rs p.2).1∧er = 0∧rs' = rs∧ps' = l) ∨
  (Tm.dM rs p.1 p.2 = 0∧(Tm.form rs p.1).1≠(Tm.form rs p.2).1∧(Tm.dir rk (Tm.form rs p.1).1 (Tm.form rs p.2).1).1≠0∧er = (Tm.dir rk (Tm.form rs p.1).1 (Tm.form rs p.2).1).1∧rs' = []∧ps' = []) ∨
  (Tm.dM rs p.1 p.2 = 0∧(Tm.form rs p.1).1≠(Tm.form rs p.2).1∧(Tm.dir rk (Tm.form rs p.1).1 (Tm.form rs p.2).1).1 = 0∧Tm.gW rs l (Tm.dir rk (Tm.form rs p.1).1 (Tm.form rs p.2).1).2.1 (Tm.dir rk (Tm.form rs p.1).1 (Tm.form rs p.2).1).2.2 er rs' ps'))→Tm.fw rk rs (p :: l) er rs' ps'):=fun er rs' ps' h=>.inr ⟨ht,p,l,rfl,h⟩
 have YO:=Tm.nC k3 0 (by simp);simp only [List.getElem?_cons_zero,Option.getD_some] at YO;obtain ⟨h8,_⟩:=Tm.di k4;have afA:l.length≤39:=by simp at k2;omega
 obtain ⟨b,off,rfl,hb,aP,cP,aQ,cQ,g1,g2,g3,g4,g5,g6,g7,g8⟩:=hP 0 (by simp);rw [Nat.zero_mul,Nat.add_zero] at g1 g2;simp only [List.getElem?_cons_zero,Option.getD_some] at g1 g2 g3 g4 g5 g7;have hTl:=hid hP.tail;have hcell:=hid (fun W (hW:Below w.heap.size w W)=>(show W.cell? ⟨b,off,none⟩ = some (.slice aP p.1.length cP)∧W.cell? ⟨b,off+1,none⟩ = some (.slice aQ p.2.length cQ) from ⟨(hW.cell (p:=⟨b,off,none⟩) hb).trans g1,(hW.cell (p:=⟨b,off+1,none⟩) hb).trans g2⟩));have HL:=hid (fun W (hW:Below w.heap.size w W)=>hL.below hW);have HR:=hid (fun W (hW:Below w.heap.size w W)=>(hR.below hW).mono hW.size);have hF1:=hid (qQ rs p.1 al aP cl cP w k4 YO.1 hL g3 g5 g6);have hF2:=hid (fun W (hW:Below w.heap.size w W)=>qQ rs p.2 al aQ cl cQ W k4 YO.2 ((hL.below hW).mono hW.size) ((g4.below hW).mono hW.size) g7 g8);have Ve:=hid k1;have Hk4:=hid k4;obtain ⟨P,Q⟩:=p;dsimp only at hS hF1 hF2 hcell g1 g2 g5 g7
 have Eh:Hid (Tm.dM rs P Q = if (Tm.form rs P).2.2 = 0 then (Tm.form rs Q).2.2 else (Tm.form rs P).2.2):=rfl;have acj:(l.length:Int)≤39:=by omega
 have hl0':(0:Int) < (l.length:Int)+1:=by omega
 have hc2':(cap:Int)≤9223372036854775807:=by unfold maxLen at hc2;omega
 have afB:(l.length:Int)+1≤(cap:Int):=by omega
 clear hR hL hP g3 g4 ht k2 k3 k5 k6 k7 YO k4;by_cases f1:(Tm.form rs P).2.2 = 0
 ·rw [if_pos f1] at Eh
  have eF:=Tm.ky f1;rw [f1] at hF1;by_cases f2:(Tm.form rs Q).2.2 = 0
  ·have eG:=Tm.ky f2
   rw [f2] at hF2 Eh;rw [Eh.out] at hS;clear f1 f2 Eh;generalize (Tm.form rs P).1 = F at *;generalize (Tm.form rs Q).1 = G at *;generalize (Tm.form rs P).2.1 = n1 at *;generalize (Tm.form rs Q).2.1 = n2 at *;have lF:=Tm.aI eF;have lG:=Tm.aI eG;have hEq:=hid (fun W a1 a2 c1 c2 q1 q2=>nO F G a1 a2 c1 c2 W q1 q2 (by unfold maxLen;omega));have r1:(1:Int)≤(l.length:Int)+1:=by omega
   have r4:(1:Int)≤(cap:Int):=by omega
   by_cases O5:F = G
   ·rw [show dK F G = true by simp [dK,O5]] at hEq
    have Hs:=hid (hS.out 0 rs l (.inr (.inl ⟨rfl,O5,rfl,rfl,rfl⟩)));clear hS O5;by_cases hcap:cap = 1
    ·subst hcap
     obtain rfl:l = []:=List.eq_nil_of_length_eq_zero (by omega);simp only [List.length_nil,Nat.zero_add];go_enter Tryz.func36,Tryz.ntmps36;go_wp2_with fail;refine hF1.out.mono ?_;rintro e w1 ⟨v1,rfl,N1,b1⟩;obtain ⟨aF,cF,rfl,iF,pF,IQ⟩:=New.ints N1;obtain ⟨x0,x1⟩:=hcell.out w1 b1;clear hF1;go_wp2_with fail;refine (hF2.out w1 b1).mono ?_;rintro e w2 ⟨v2,rfl,N2,b2⟩;obtain ⟨aG,cG,rfl,iG,pG,Jn⟩:=New.ints N2;have B2:=b1.trans (b2.mono b1.size);have EW:=(iF.below b2).mono b2.size;clear hF2 x0 x1 N1 N2;go_wp2_with fail;refine (hEq.out w2 aF aG cF cG EW iG).mono ?_;rintro e w3 ⟨rfl,b3⟩;have B3:=B2.trans (b3.mono B2.size);have hb3:w.heap.size≤w3.heap.size:=B3.size;have hMR:=hid (fun V (hV:Below w.heap.size w V)=>HL.out V hV);have hMP:=hid (fun V (hV:Below w.heap.size w V)=>(show aJ w.heap.size V (some ⟨b,off,none⟩) [] from fun k hk=>by simp at hk));have e1:Hid (∀ V,iV V (w3.alloc (.cells #[] 54))→jq 54 w.heap.size w V w3.heap.size):=fun V hV=>(jq.new _ B3 hb3).same hV
     have e4:Hid (∀ V,iV V (w3.alloc (.cells #[] 40))→jq 40 w.heap.size w V w3.heap.size):=fun V hV=>(jq.new _ B3 hb3).same hV
     have e2:Hid (∀ V,iV V ((w3.alloc (.cells #[] 54)).alloc (.cells #[] 40))→jq 54 w.heap.size w V w3.heap.size∧jq 40 w.heap.size w V (w3.heap.size+1)):=fun V hV=>by
      have h1:=jq.new 54 B3 hb3;have h2:=jq.new 40 h1.2 h1.2.size;rw [World.size_alloc] at h2;exact ⟨(h1.alloc h1.2.size _).same hV,h2.same hV⟩
     have e3:Hid (∀ V,iV V ((w3.alloc (.cells #[] 40)).alloc (.cells #[] 54))→jq 40 w.heap.size w V w3.heap.size∧jq 54 w.heap.size w V (w3.heap.size+1)):=fun V hV=>by
      have h1:=jq.new 40 B3 hb3;have h2:=jq.new 54 h1.2 h1.2.size;rw [World.size_alloc] at h2;exact ⟨(h1.alloc h1.2.size _).same hV,h2.same hV⟩
     go_wp2;go_region_held3 (fun _=>True) (first | trivial)
      (first
        | (refine EN _ (by rfl) _ _ (by rfl) w.heap.size _ w (by rfl) (by first | exact e1.out _ ⟨by rfl,by rfl,by rfl,by rfl⟩ | exact (e2.out _ ⟨by rfl,by rfl,by rfl,by rfl⟩).1 | exact (e3.out _ ⟨by rfl,by rfl,by rfl,by rfl⟩).2 | exact (rR.out _ ⟨by rfl,by rfl,by rfl,by rfl⟩).1 | exact (rRa.out _ ⟨by rfl,by rfl,by rfl,by rfl⟩).1) al cl rs (by rfl) hzl hMR.out (Nat.le_refl _) (by omega) ?_;intro vR wR nR tR dR zR;obtain ⟨xR,yR,rfl⟩:=nR.slice;
           have rPa:Hid (∀ V,iV V (wR.alloc (.cells #[] 40))→jq 40 w.heap.size w V wR.heap.size∧aU true 54 w.heap.size w.heap.size V (.slice xR rs.length yR) rs):=fun V hV=>⟨(jq.new _ zR zR.size).same hV,(nR.below ((Below.refl _ _).alloc (Nat.le_refl _) _)).same hV.1⟩;
           (try have rP:Hid (∀ V,iV V wR→jq 40 w.heap.size w V (w3.heap.size+1)∧aU true 54 w.heap.size w.heap.size V (.slice xR rs.length yR) rs):=fun V hV=>⟨(dR _ (e2.out _ ⟨by rfl,by rfl,by rfl,by rfl⟩).2).same hV,nR.same hV.1⟩);
           (try have rP:Hid (∀ V,iV V wR→jq 40 w.heap.size w V w3.heap.size∧aU true 54 w.heap.size w.heap.size V (.slice xR rs.length yR) rs):=fun V hV=>⟨(dR _ (e3.out _ ⟨by rfl,by rfl,by rfl,by rfl⟩).1).same hV,nR.same hV.1⟩);
           (try have FIN:=hid (And.intro nR (And.intro (tR _ _ (rR.out _ ⟨by rfl,by rfl,by rfl,by rfl⟩).2) zR)));
           (try have FIN:=hid (And.intro nR (And.intro (tR _ _ (rRa.out _ ⟨by rfl,by rfl,by rfl,by rfl⟩).2) zR))))
        | (refine EO _ (by rfl) _ _ (by rfl) w.heap.size _ w (by rfl) (by first | exact e4.out _ ⟨by rfl,by rfl,by rfl,by rfl⟩ | exact (e2.out _ ⟨by rfl,by rfl,by rfl,by rfl⟩).2 | exact (e3.out _ ⟨by rfl,by rfl,by rfl,by rfl⟩).1 | exact (rP.out _ ⟨by rfl,by rfl,by rfl,by rfl⟩).1 | exact (rPa.out _ ⟨by rfl,by rfl,by rfl,by rfl⟩).1) (some ⟨b,off,none⟩) 0 [] (by rfl) (fun e=>by cases e) hMP.out (Nat.le_refl _) (by omega) ?_;intro vP wP nP tP dP zP;obtain ⟨xP,yP,rfl⟩:=nP.slice;
           have rRa:Hid (∀ V,iV V (wP.alloc (.cells #[] 54))→jq 54 w.heap.size w V wP.heap.size∧aU true 40 w.heap.size w.heap.size V (.slice xP 0 yP) []):=fun V hV=>⟨(jq.new _ zP zP.size).same hV,(nP.below ((Below.refl _ _).alloc (Nat.le_refl _) _)).same hV.1⟩;
           (try have rR:Hid (∀ V,iV V wP→jq 54 w.heap.size w V w3.heap.size∧aU true 40 w.heap.size w.heap.size V (.slice xP 0 yP) []):=fun V hV=>⟨(dP _ (e2.out _ ⟨by rfl,by rfl,by rfl,by rfl⟩).1).same hV,nP.same hV.1⟩);
           (try have rR:Hid (∀ V,iV V wP→jq 54 w.heap.size w V (w3.heap.size+1)∧aU true 40 w.heap.size w.heap.size V (.slice xP 0 yP) []):=fun V hV=>⟨(dP _ (e3.out _ ⟨by rfl,by rfl,by rfl,by rfl⟩).2).same hV,nP.same hV.1⟩);
           (try have FIN:=hid (And.intro (tP _ _ (rP.out _ ⟨by rfl,by rfl,by rfl,by rfl⟩).2) (And.intro nP zP)));
           (try have FIN:=hid (And.intro (tP _ _ (rPa.out _ ⟨by rfl,by rfl,by rfl,by rfl⟩).2) (And.intro nP zP)))))
     all_goals (
      go_wp2;go_ret3
      exact ⟨0,rs,[],_,_,_,Hs.out,rfl,FIN.out.1,FIN.out.2.1,FIN.out.2.2⟩)
    ·have r3:¬ cap - 1 = 0:=by omega
     go_enter Tryz.func36,Tryz.ntmps36;go_wp2_with fail;refine hF1.out.mono ?_;rintro e w1 ⟨v1,rfl,N1,b1⟩;obtain ⟨aF,cF,rfl,iF,pF,IQ⟩:=New.ints N1;obtain ⟨x0,x1⟩:=hcell.out w1 b1;clear hF1;go_wp2_with fail;refine (hF2.out w1 b1).mono ?_;rintro e w2 ⟨v2,rfl,N2,b2⟩;obtain ⟨aG,cG,rfl,iG,pG,Jn⟩:=New.ints N2;have B2:=b1.trans (b2.mono b1.size);have EW:=(iF.below b2).mono b2.size;clear hF2 x0 x1 N1 N2;go_wp2_with fail;refine (hEq.out w2 aF aG cF cG EW iG).mono ?_;rintro e w3 ⟨rfl,b3⟩;have B3:=B2.trans (b3.mono B2.size);have hb3:w.heap.size≤w3.heap.size:=B3.size;have hMR:=hid (fun V (hV:Below w.heap.size w V)=>HL.out V hV);have hMP:=hid (fun V (hV:Below w.heap.size w V)=>hTl.out.below hV);have e1:Hid (∀ V,iV V (w3.alloc (.cells #[] 54))→jq 54 w.heap.size w V w3.heap.size):=fun V hV=>(jq.new _ B3 hb3).same hV
     have e4:Hid (∀ V,iV V (w3.alloc (.cells #[] 40))→jq 40 w.heap.size w V w3.heap.size):=fun V hV=>(jq.new _ B3 hb3).same hV
     have e2:Hid (∀ V,iV V ((w3.alloc (.cells #[] 54)).alloc (.cells #[] 40))→jq 54 w.heap.size w V w3.heap.size∧jq 40 w.heap.size w V (w3.heap.size+1)):=fun V hV=>by
      have h1:=jq.new 54 B3 hb3;have h2:=jq.new 40 h1.2 h1.2.size;rw [World.size_alloc] at h2;exact ⟨(h1.alloc h1.2.size _).same hV,h2.same hV⟩
     have e3:Hid (∀ V,iV V ((w3.alloc (.cells #[] 40)).alloc (.cells #[] 54))→jq 40 w.heap.size w V w3.heap.size∧jq 54 w.heap.size w V (w3.heap.size+1)):=fun V hV=>by
      have h1:=jq.new 40 B3 hb3;have h2:=jq.new 54 h1.2 h1.2.size;rw [World.size_alloc] at h2;exact ⟨(h1.alloc h1.2.size _).same hV,h2.same hV⟩
     go_wp2;go_region_held3 (fun _=>True) (first | trivial)
      (first
        | (refine EN _ (by rfl) _ _ (by rfl) w.heap.size _ w (by rfl) (by first | exact e1.out _ ⟨by rfl,by rfl,by rfl,by rfl⟩ | exact (e2.out _ ⟨by rfl,by rfl,by rfl,by rfl⟩).1 | exact (e3.out _ ⟨by rfl,by rfl,by rfl,by rfl⟩).2 | exact (rR.out _ ⟨by rfl,by rfl,by rfl,by rfl⟩).1 | exact (rRa.out _ ⟨by rfl,by rfl,by rfl,by rfl⟩).1) al cl rs (by rfl) hzl hMR.out (Nat.le_refl _) (by omega) ?_;intro vR wR nR tR dR zR;obtain ⟨xR,yR,rfl⟩:=nR.slice;
           have rPa:Hid (∀ V,iV V (wR.alloc (.cells #[] 40))→jq 40 w.heap.size w V wR.heap.size∧aU true 54 w.heap.size w.heap.size V (.slice xR rs.length yR) rs):=fun V hV=>⟨(jq.new _ zR zR.size).same hV,(nR.below ((Below.refl _ _).alloc (Nat.le_refl _) _)).same hV.1⟩;
           (try have rP:Hid (∀ V,iV V wR→jq 40 w.heap.size w V (w3.heap.size+1)∧aU true 54 w.heap.size w.heap.size V (.slice xR rs.length yR) rs):=fun V hV=>⟨(dR _ (e2.out _ ⟨by rfl,by rfl,by rfl,by rfl⟩).2).same hV,nR.same hV.1⟩);
           (try have rP:Hid (∀ V,iV V wR→jq 40 w.heap.size w V w3.heap.size∧aU true 54 w.heap.size w.heap.size V (.slice xR rs.length yR) rs):=fun V hV=>⟨(dR _ (e3.out _ ⟨by rfl,by rfl,by rfl,by rfl⟩).1).same hV,nR.same hV.1⟩);
           (try have FIN:=hid (And.intro nR (And.intro (tR _ _ (rR.out _ ⟨by rfl,by rfl,by rfl,by rfl⟩).2) zR)));
           (try have FIN:=hid (And.intro nR (And.intro (tR _ _ (rRa.out _ ⟨by rfl,by rfl,by rfl,by rfl⟩).2) zR))))
        | (refine EO _ (by rfl) _ _ (by rfl) w.heap.size _ w (by rfl) (by first | exact e4.out _ ⟨by rfl,by rfl,by rfl,by rfl⟩ | exact (e2.out _ ⟨by rfl,by rfl,by rfl,by rfl⟩).2 | exact (e3.out _ ⟨by rfl,by rfl,by rfl,by rfl⟩).1 | exact (rP.out _ ⟨by rfl,by rfl,by rfl,by rfl⟩).1 | exact (rPa.out _ ⟨by rfl,by rfl,by rfl,by rfl⟩).1) (some ⟨b,off+2,none⟩) (cap - 1) l (by rfl) (fun e=>by cases e) hMP.out (Nat.le_refl _) (by omega) ?_;intro vP wP nP tP dP zP;obtain ⟨xP,yP,rfl⟩:=nP.slice;
           have rRa:Hid (∀ V,iV V (wP.alloc (.cells #[] 54))→jq 54 w.heap.size w V wP.heap.size∧aU true 40 w.heap.size w.heap.size V (.slice xP l.length yP) l):=fun V hV=>⟨(jq.new _ zP zP.size).same hV,(nP.below ((Below.refl _ _).alloc (Nat.le_refl _) _)).same hV.1⟩;
           (try have rR:Hid (∀ V,iV V wP→jq 54 w.heap.size w V w3.heap.size∧aU true 40 w.heap.size w.heap.size V (.slice xP l.length yP) l):=fun V hV=>⟨(dP _ (e2.out _ ⟨by rfl,by rfl,by rfl,by rfl⟩).1).same hV,nP.same hV.1⟩);
           (try have rR:Hid (∀ V,iV V wP→jq 54 w.heap.size w V (w3.heap.size+1)∧aU true 40 w.heap.size w.heap.size V (.slice xP l.length yP) l):=fun V hV=>⟨(dP _ (e3.out _ ⟨by rfl,by rfl,by rfl,by rfl⟩).2).same hV,nP.same hV.1⟩);
           (try have FIN:=hid (And.intro (tP _ _ (rP.out _ ⟨by rfl,by rfl,by rfl,by rfl⟩).2) (And.intro nP zP)));
           (try have FIN:=hid (And.intro (tP _ _ (rPa.out _ ⟨by rfl,by rfl,by rfl,by rfl⟩).2) (And.intro nP zP)))))
     all_goals (
      go_wp2;go_ret3
      exact ⟨0,rs,l,_,_,_,Hs.out,rfl,FIN.out.1,FIN.out.2.1,FIN.out.2.2⟩)
   ·rw [show dK F G = false by unfold dK;exact decide_eq_false O5] at hEq
    have QT:=hid (fun W (hW:Below w.heap.size w W) a1 a2 c1 c2 q1 q2 q3 q4 q5 q6=>oL rk F G ar a1 a2 cr c1 c2 W (HR.out W hW) q1 q2 q3 q4 q5 q6 eF eG (zK Ve.out));have hBa:=hid (fun W (hW:Below w.heap.size w W) a1 a2 c1 c2 q1 q2 q3 q4 q5 q6=>oL rk G F ar a1 a2 cr c1 c2 W (HR.out W hW) q1 q2 q3 q4 q5 q6 eG eF (zK Ve.out));have hv1:Hid (Tm.ab rk F G 0 0 = Tm.bg rk F G):=by
     show _ = _;unfold Tm.bg Tm.ab;rw [if_pos (Tm.gz Ve.out eF eG),Tm.jb (Tm.eT eF),Tm.jb (Tm.eT eG)]
    have hv2:Hid (Tm.ab rk G F 0 0 = Tm.bg rk G F):=by
     show _ = _;unfold Tm.bg Tm.ab;rw [if_pos (Tm.gz Ve.out eG eF),Tm.jb (Tm.eT eG),Tm.jb (Tm.eT eF)]
    rw [hv1.out] at QT;rw [hv2.out] at hBa;have EX:Hid (Tm.dir rk F G = if Tm.bg rk F G = true then (Tm.jG F,Tm.lU F G) else if Tm.bg rk G F = true then (Tm.jG G,Tm.lU G F) else (6,[],[])):=rfl;have Dc:Hid (∀ er rs' ps',(((Tm.dir rk F G).1≠0∧er = (Tm.dir rk F G).1∧rs' = []∧ps' = [])∨((Tm.dir rk F G).1 = 0∧Tm.gW rs l (Tm.dir rk F G).2.1 (Tm.dir rk F G).2.2 er rs' ps'))→Tm.fw rk rs ((P,Q) :: l) er rs' ps'):=fun er rs' ps' h=>hS.out er rs' ps' (h.elim (fun h=>.inr (.inr (.inl ⟨rfl,O5,h⟩))) (fun h=>.inr (.inr (.inr ⟨rfl,O5,h⟩))))
    clear hS hv1 hv2 O5;cases hab:Tm.bg rk F G with
    | true =>
     rw [hab,if_pos rfl] at EX;rw [hab] at QT;have qg:Hid (∀ er rs' ps',Tm.mQ rs l F G er rs' ps'→Tm.fw rk rs ((P,Q) :: l) er rs' ps'):=fun er rs' ps' h=>Dc.out er rs' ps' (Tm.KR EX.out h)
     have ac8:=hid hab;clear Dc hBa hab EX;by_cases hcap:cap = 1
     ·subst hcap
      obtain rfl:l = []:=List.eq_nil_of_length_eq_zero (by omega);simp only [List.length_nil,Nat.zero_add];go_enter Tryz.func36,Tryz.ntmps36;go_wp2_with fail;refine hF1.out.mono ?_;rintro e w1 ⟨v1,rfl,N1,b1⟩;obtain ⟨aF,cF,rfl,iF,pF,IQ⟩:=New.ints N1;obtain ⟨x0,x1⟩:=hcell.out w1 b1;clear hF1;go_wp2_with fail;refine (hF2.out w1 b1).mono ?_;rintro e w2 ⟨v2,rfl,N2,b2⟩;obtain ⟨aG,cG,rfl,iG,pG,Jn⟩:=New.ints N2;have B2:=b1.trans (b2.mono b1.size);have EW:=(iF.below b2).mono b2.size;clear hF2 x0 x1 N1 N2;go_wp2_with fail;refine (hEq.out w2 aF aG cF cG EW iG).mono ?_;rintro e w3 ⟨rfl,b3⟩;have B3:=B2.trans (b3.mono B2.size);have I7:=(EW.below b3).mono b3.size;have Ja:=(iG.below b3).mono b3.size;clear hEq EW iG;have hA1:=hid (QT.out w3 B3 aF aG cF cG I7 Ja pF IQ pG Jn);clear QT;go_wp2_with fail;refine hA1.out.mono ?_;rintro e w4 ⟨rfl,b4⟩;have B4:=B3.trans (b4.mono B3.size);have KT:=(I7.below b4).mono b4.size;have KU:=(Ja.below b4).mono b4.size;clear hA1 I7 Ja;have hG:=hid (nG rk rs [] F G al (some ⟨b,off,none⟩) aF aG cl 0 cF cG w4 Ve.out Hk4.out eF eG ac8.out (by simp) ((HL.out w4 B4).mono B4.size) (fun k hk=>by simp at hk) (fun e=>by cases e) KT KU);clear KT KU;go_wp2_with fail;refine hG.out.mono ?_;rintro e w9 ⟨er,rs',ps',v9,u9,El,rfl,n9,m9,b9⟩;obtain ⟨a9,c9,rfl⟩:=n9.slice;obtain ⟨a10,c10,rfl⟩:=m9.slice;have Hs:=hid (qg.out er rs' ps' El);have B9:=B4.trans (b9.mono B4.size);have N9:=hid n9;have M9:=hid m9;clear hG El n9 m9;go_wp2;go_ret3
      exact ⟨er,rs',ps',_,_,_,Hs.out,rfl,N9.out,M9.out,B9⟩
     ·have r3:¬ cap - 1 = 0:=by omega
      go_enter Tryz.func36,Tryz.ntmps36;go_wp2_with fail;refine hF1.out.mono ?_;rintro e w1 ⟨v1,rfl,N1,b1⟩;obtain ⟨aF,cF,rfl,iF,pF,IQ⟩:=New.ints N1;obtain ⟨x0,x1⟩:=hcell.out w1 b1;clear hF1;go_wp2_with fail;refine (hF2.out w1 b1).mono ?_;rintro e w2 ⟨v2,rfl,N2,b2⟩;obtain ⟨aG,cG,rfl,iG,pG,Jn⟩:=New.ints N2;have B2:=b1.trans (b2.mono b1.size);have EW:=(iF.below b2).mono b2.size;clear hF2 x0 x1 N1 N2;go_wp2_with fail;refine (hEq.out w2 aF aG cF cG EW iG).mono ?_;rintro e w3 ⟨rfl,b3⟩;have B3:=B2.trans (b3.mono B2.size);have I7:=(EW.below b3).mono b3.size;have Ja:=(iG.below b3).mono b3.size;clear hEq EW iG;have hA1:=hid (QT.out w3 B3 aF aG cF cG I7 Ja pF IQ pG Jn);clear QT;go_wp2_with fail;refine hA1.out.mono ?_;rintro e w4 ⟨rfl,b4⟩;have B4:=B3.trans (b4.mono B3.size);have KT:=(I7.below b4).mono b4.size;have KU:=(Ja.below b4).mono b4.size;clear hA1 I7 Ja;have hG:=hid (nG rk rs l F G al (some ⟨b,off+2,none⟩) aF aG cl (cap - 1) cF cG w4 Ve.out Hk4.out eF eG ac8.out (by omega) ((HL.out w4 B4).mono B4.size) ((hTl.out.below B4).mono B4.size) (fun e=>by cases e) KT KU);clear KT KU;go_wp2_with fail;refine hG.out.mono ?_;rintro e w9 ⟨er,rs',ps',v9,u9,El,rfl,n9,m9,b9⟩;obtain ⟨a9,c9,rfl⟩:=n9.slice;obtain ⟨a10,c10,rfl⟩:=m9.slice;have Hs:=hid (qg.out er rs' ps' El);have B9:=B4.trans (b9.mono B4.size);have N9:=hid n9;have M9:=hid m9;clear hG El n9 m9;go_wp2;go_ret3
      exact ⟨er,rs',ps',_,_,_,Hs.out,rfl,N9.out,M9.out,B9⟩
    | false =>
     rw [hab,if_neg (by decide)] at EX;rw [hab] at QT;clear hab;cases Rk:Tm.bg rk G F with
     | true =>
      rw [Rk,if_pos rfl] at EX;rw [Rk] at hBa;have qg:Hid (∀ er rs' ps',Tm.mQ rs l G F er rs' ps'→Tm.fw rk rs ((P,Q) :: l) er rs' ps'):=fun er rs' ps' h=>Dc.out er rs' ps' (Tm.KR EX.out h)
      have ac9:=hid Rk;clear Dc Rk EX;by_cases hcap:cap = 1
      ·subst hcap
       obtain rfl:l = []:=List.eq_nil_of_length_eq_zero (by omega);simp only [List.length_nil,Nat.zero_add];go_enter Tryz.func36,Tryz.ntmps36;go_wp2_with fail;refine hF1.out.mono ?_;rintro e w1 ⟨v1,rfl,N1,b1⟩;obtain ⟨aF,cF,rfl,iF,pF,IQ⟩:=New.ints N1;obtain ⟨x0,x1⟩:=hcell.out w1 b1;clear hF1;go_wp2_with fail;refine (hF2.out w1 b1).mono ?_;rintro e w2 ⟨v2,rfl,N2,b2⟩;obtain ⟨aG,cG,rfl,iG,pG,Jn⟩:=New.ints N2;have B2:=b1.trans (b2.mono b1.size);have EW:=(iF.below b2).mono b2.size;clear hF2 x0 x1 N1 N2;go_wp2_with fail;refine (hEq.out w2 aF aG cF cG EW iG).mono ?_;rintro e w3 ⟨rfl,b3⟩;have B3:=B2.trans (b3.mono B2.size);have I7:=(EW.below b3).mono b3.size;have Ja:=(iG.below b3).mono b3.size;clear hEq EW iG;have hA1:=hid (QT.out w3 B3 aF aG cF cG I7 Ja pF IQ pG Jn);clear QT;go_wp2_with fail;refine hA1.out.mono ?_;rintro e w4 ⟨rfl,b4⟩;have B4:=B3.trans (b4.mono B3.size);have KT:=(I7.below b4).mono b4.size;have KU:=(Ja.below b4).mono b4.size;clear hA1 I7 Ja;have hA2:=hid (hBa.out w4 B4 aG aF cG cF KU KT pG Jn pF IQ);clear hBa;go_wp2_with fail;refine hA2.out.mono ?_;rintro e w5 ⟨rfl,b5⟩;have B5:=B4.trans (b5.mono B4.size);have iF5:=(KT.below b5).mono b5.size;have iG5:=(KU.below b5).mono b5.size;clear hA2 KT KU;have hG:=hid (nG rk rs [] G F al (some ⟨b,off,none⟩) aG aF cl 0 cG cF w5 Ve.out Hk4.out eG eF ac9.out (by simp) ((HL.out w5 B5).mono B5.size) (fun k hk=>by simp at hk) (fun e=>by cases e) iG5 iF5);clear iG5 iF5;go_wp2_with fail;refine hG.out.mono ?_;rintro e w9 ⟨er,rs',ps',v9,u9,El,rfl,n9,m9,b9⟩;obtain ⟨a9,c9,rfl⟩:=n9.slice;obtain ⟨a10,c10,rfl⟩:=m9.slice;have Hs:=hid (qg.out er rs' ps' El);have B9:=B5.trans (b9.mono B5.size);have N9:=hid n9;have M9:=hid m9;clear hG El n9 m9;go_wp2;go_ret3
       exact ⟨er,rs',ps',_,_,_,Hs.out,rfl,N9.out,M9.out,B9⟩
      ·have r3:¬ cap - 1 = 0:=by omega
       go_enter Tryz.func36,Tryz.ntmps36;go_wp2_with fail;refine hF1.out.mono ?_;rintro e w1 ⟨v1,rfl,N1,b1⟩;obtain ⟨aF,cF,rfl,iF,pF,IQ⟩:=New.ints N1;obtain ⟨x0,x1⟩:=hcell.out w1 b1;clear hF1;go_wp2_with fail;refine (hF2.out w1 b1).mono ?_;rintro e w2 ⟨v2,rfl,N2,b2⟩;obtain ⟨aG,cG,rfl,iG,pG,Jn⟩:=New.ints N2;have B2:=b1.trans (b2.mono b1.size);have EW:=(iF.below b2).mono b2.size;clear hF2 x0 x1 N1 N2;go_wp2_with fail;refine (hEq.out w2 aF aG cF cG EW iG).mono ?_;rintro e w3 ⟨rfl,b3⟩;have B3:=B2.trans (b3.mono B2.size);have I7:=(EW.below b3).mono b3.size;have Ja:=(iG.below b3).mono b3.size;clear hEq EW iG;have hA1:=hid (QT.out w3 B3 aF aG cF cG I7 Ja pF IQ pG Jn);clear QT;go_wp2_with fail;refine hA1.out.mono ?_;rintro e w4 ⟨rfl,b4⟩;have B4:=B3.trans (b4.mono B3.size);have KT:=(I7.below b4).mono b4.size;have KU:=(Ja.below b4).mono b4.size;clear hA1 I7 Ja;have hA2:=hid (hBa.out w4 B4 aG aF cG cF KU KT pG Jn pF IQ);clear hBa;go_wp2_with fail;refine hA2.out.mono ?_;rintro e w5 ⟨rfl,b5⟩;have B5:=B4.trans (b5.mono B4.size);have iF5:=(KT.below b5).mono b5.size;have iG5:=(KU.below b5).mono b5.size;clear hA2 KT KU;have hG:=hid (nG rk rs l G F al (some ⟨b,off+2,none⟩) aG aF cl (cap - 1) cG cF w5 Ve.out Hk4.out eG eF ac9.out (by omega) ((HL.out w5 B5).mono B5.size) ((hTl.out.below B5).mono B5.size) (fun e=>by cases e) iG5 iF5);clear iG5 iF5;go_wp2_with fail;refine hG.out.mono ?_;rintro e w9 ⟨er,rs',ps',v9,u9,El,rfl,n9,m9,b9⟩;obtain ⟨a9,c9,rfl⟩:=n9.slice;obtain ⟨a10,c10,rfl⟩:=m9.slice;have Hs:=hid (qg.out er rs' ps' El);have B9:=B5.trans (b9.mono B5.size);have N9:=hid n9;have M9:=hid m9;clear hG El n9 m9;go_wp2;go_ret3
       exact ⟨er,rs',ps',_,_,_,Hs.out,rfl,N9.out,M9.out,B9⟩
     | false =>
      rw [Rk,if_neg (by decide)] at EX;rw [Rk] at hBa;have Hs:=hid (Dc.out 6 [] [] (.inl ⟨by rw [EX.out];decide,by rw [EX.out],rfl,rfl⟩));clear Dc Rk EX;go_enter Tryz.func36,Tryz.ntmps36;go_wp2_with fail;refine hF1.out.mono ?_;rintro e w1 ⟨v1,rfl,N1,b1⟩;obtain ⟨aF,cF,rfl,iF,pF,IQ⟩:=New.ints N1;obtain ⟨x0,x1⟩:=hcell.out w1 b1;clear hF1;go_wp2_with fail;refine (hF2.out w1 b1).mono ?_;rintro e w2 ⟨v2,rfl,N2,b2⟩;obtain ⟨aG,cG,rfl,iG,pG,Jn⟩:=New.ints N2;have B2:=b1.trans (b2.mono b1.size);have EW:=(iF.below b2).mono b2.size;clear hF2 x0 x1 N1 N2;go_wp2_with fail;refine (hEq.out w2 aF aG cF cG EW iG).mono ?_;rintro e w3 ⟨rfl,b3⟩;have B3:=B2.trans (b3.mono B2.size);have I7:=(EW.below b3).mono b3.size;have Ja:=(iG.below b3).mono b3.size;clear hEq EW iG;have hA1:=hid (QT.out w3 B3 aF aG cF cG I7 Ja pF IQ pG Jn);clear QT;go_wp2_with fail;refine hA1.out.mono ?_;rintro e w4 ⟨rfl,b4⟩;have B4:=B3.trans (b4.mono B3.size);have KT:=(I7.below b4).mono b4.size;have KU:=(Ja.below b4).mono b4.size;clear hA1 I7 Ja;have hA2:=hid (hBa.out w4 B4 aG aF cG cF KU KT pG Jn pF IQ);clear hBa;go_wp2_with fail;refine hA2.out.mono ?_;rintro e w5 ⟨rfl,b5⟩;have B5:=B4.trans (b5.mono B4.size);have iF5:=(KT.below b5).mono b5.size;have iG5:=(KU.below b5).mono b5.size;clear hA2 KT KU;go_wp2;go_ret3
      exact ⟨6,[],[],_,_,0,Hs.out,rfl,aU.nil _ _ _ _,aU.nil _ _ _ _,B5⟩
  ·have hne:((Tm.form rs Q).2.2 != 0) = true:=by simpa using f2
   have Hs:=hid (hS.out (Tm.form rs Q).2.2 [] [] (.inl ⟨by rw [Eh.out];exact f2,Eh.out.symm,rfl,rfl⟩));clear hS Eh f1 f2 eF;generalize (Tm.form rs P).1 = F at *;generalize (Tm.form rs P).2.1 = n1 at *;generalize Tm.form rs Q = fq at *;go_enter Tryz.func36,Tryz.ntmps36;go_wp2_with fail;refine hF1.out.mono ?_;rintro e w1 ⟨v1,rfl,N1,b1⟩;obtain ⟨aF,cF,rfl,iF,pF,IQ⟩:=New.ints N1;obtain ⟨x0,x1⟩:=hcell.out w1 b1;clear hF1;go_wp2_with fail;refine (hF2.out w1 b1).mono ?_;rintro e w2 ⟨v2,rfl,N2,b2⟩;obtain ⟨aG,cG,rfl,_⟩:=New.ints N2;go_wp2;go_ret3
   exact ⟨_,[],[],_,_,0,Hs.out,rfl,aU.nil _ _ _ _,aU.nil _ _ _ _,b1.trans (b2.mono b1.size)⟩
 ·rw [if_neg f1] at Eh
  have hne:((Tm.form rs P).2.2 != 0) = true:=by simpa using f1
  have Hs:=hid (hS.out (Tm.form rs P).2.2 [] [] (.inl ⟨by rw [Eh.out];exact f1,Eh.out.symm,rfl,rfl⟩));clear hS Eh f1 hF2;generalize Tm.form rs P = fp at *;go_enter Tryz.func36,Tryz.ntmps36;go_wp2_with fail;refine hF1.out.mono ?_;rintro e w1 ⟨v1,rfl,N1,b1⟩;obtain ⟨aF,cF,rfl,_⟩:=New.ints N1;go_wp2;go_ret3
  exact ⟨_,[],[],_,_,0,Hs.out,rfl,aU.nil _ _ _ _,aU.nil _ _ _ _,b1⟩
end Go.Proofs.YtglohanbpjaieaaGreat
namespace Go.Proofs.YtglohanbpjaieaaGreat
open Go.Proofs Go.RowKit Go.Shelf
def Tm.Uy:Prop:=∀ (rs:aH) (i j er FB:Int) (ps ps':ah),Tm.dS rs i j er ps→Tm.dS rs i j FB ps'→er = FB∧ps = ps'
theorem Tm.gV.one (H:Tm.Uy) {rs:aH} {ws:List (Nat × Nat)} {e e':Int} {ps ps':ah} (h:Tm.gV rs ws e ps) (h':Tm.gV rs ws e' ps'):e = e'∧ps = ps':=by
 rcases h with ⟨rfl,f,h1,rfl⟩ | ⟨he,rfl,k,qs,hk,⟨l,f,h1,_⟩,hs⟩ <;> rcases h' with ⟨rfl,g,g1,rfl⟩ | ⟨ge,rfl,m,qs',hm,⟨l',g,g1,_⟩,gs⟩
 ·refine ⟨rfl,?_⟩
  congr 1;refine List.map_congr_left fun j hj=>?_
  rw [List.mem_range] at hj;exact (H _ _ _ _ _ _ _ (h1 j hj) (g1 j hj)).2
 ·exact absurd (H _ _ _ _ _ _ _ gs (h1 m hm)).1 ge
 ·exact absurd (H _ _ _ _ _ _ _ hs (g1 k hk)).1 he
 ·rcases Nat.lt_trichotomy k m with hlt | rfl | hlt
  ·exact absurd (H _ _ _ _ _ _ _ hs (g1 k hlt)).1 he
  ·exact ⟨(H _ _ _ _ _ _ _ hs gs).1,rfl⟩
  ·exact absurd (H _ _ _ _ _ _ _ gs (h1 m hlt)).1 ge
theorem Tm.gW.one (H:Tm.Uy) {rs:aH} {ps:ah} {L R:List Int} {er FB:Int} {rs1 rs2:aH} {ps1 ps2:ah} (h:Tm.gW rs ps L R er rs1 ps1) (h':Tm.gW rs ps L R FB rs2 ps2):er = FB∧rs1 = rs2∧ps1 = ps2:=by
 rcases h with ⟨h1,rfl,rfl,rfl⟩ | ⟨h1,e,q,hs,h⟩ <;> rcases h' with ⟨g1,rfl,rfl,rfl⟩ | ⟨g1,e',q',gs,g⟩
 ·exact ⟨rfl,rfl,rfl⟩
 ·omega
 ·omega
 ·obtain ⟨rfl,rfl⟩:=Tm.gV.one H hs gs
  rcases h with ⟨h2,rfl,rfl,rfl⟩ | ⟨h2,h3,rfl,rfl,rfl⟩ | ⟨h2,h3,rfl,rfl,rfl⟩ <;> rcases g with ⟨g2,rfl,rfl,rfl⟩ | ⟨g2,g3,rfl,rfl,rfl⟩ | ⟨g2,g3,rfl,rfl,rfl⟩
  ·exact ⟨rfl,rfl,rfl⟩
  ·exact absurd g2 h2
  ·exact absurd g2 h2
  ·exact absurd h2 g2
  ·exact ⟨rfl,rfl,rfl⟩
  ·omega
  ·exact absurd h2 g2
  ·omega
  ·exact ⟨rfl,rfl,rfl⟩
theorem Tm.fw.one (H:Tm.Uy) {rk:List Int} {rs:aH} {ps:ah} {er FB:Int} {rs1 rs2:aH} {ps1 ps2:ah} (h:Tm.fw rk rs ps er rs1 ps1) (h':Tm.fw rk rs ps FB rs2 ps2):er = FB∧rs1 = rs2∧ps1 = ps2:=by
 rcases h with ⟨h0,rfl,rfl,rfl⟩ | ⟨h0,p,l,rfl,h⟩ <;> rcases h' with ⟨g0,rfl,rfl,rfl⟩ | ⟨g0,p',l',e,g⟩
 ·exact ⟨rfl,rfl,rfl⟩
 ·exact absurd g0 h0
 ·exact absurd h0 g0
 ·cases e
  rcases h with ⟨h1,rfl,rfl,rfl⟩ | ⟨h1,h2,rfl,rfl,rfl⟩ | ⟨h1,h2,h3,rfl,rfl,rfl⟩ | ⟨h1,h2,h3,h4⟩ <;> rcases g with ⟨g1,rfl,rfl,rfl⟩ | ⟨g1,g2,rfl,rfl,rfl⟩ | ⟨g1,g2,g3,rfl,rfl,rfl⟩ | ⟨g1,g2,g3,g4⟩
  ·exact ⟨rfl,rfl,rfl⟩
  ·exact absurd g1 h1
  ·exact absurd g1 h1
  ·exact absurd g1 h1
  ·exact absurd h1 g1
  ·exact ⟨rfl,rfl,rfl⟩
  ·exact absurd h2 g2
  ·exact absurd h2 g2
  ·exact absurd h1 g1
  ·exact absurd g2 h2
  ·exact ⟨rfl,rfl,rfl⟩
  ·exact absurd g3 h3
  ·exact absurd h1 g1
  ·exact absurd g2 h2
  ·exact absurd h3 g3
  ·exact Tm.gW.one H h4 g4
end Go.Proofs.YtglohanbpjaieaaGreat
namespace Go.Proofs.YtglohanbpjaieaaGreat
open Go.Proofs Go.RowKit Go.Shelf Go.Maps
section
attribute [local go_sem ↓] Go.wp_at_zero Go.wp_at_succ
theorem Jb (rk:List Int) (rs:aH) (ar a:Option Addr) (cr cap:Nat) (w:World) (hR:Ints w.heap.size w ar rk) (hI:aJ w.heap.size w a rs) (h1:Tm.aZ rk = 0) (h2:Tm.aO rs = 0) :
 Calls Tryz.prog 63 #[.slice ar rk.length cr,.slice a rs.length cap] w fun e w'=>e = .returned (.bool (Tm.lI rk rs))∧Below w.heap.size w w':=by
 obtain ⟨h8,hall⟩:=Tm.di h2;have h8':(rs.length:Int)≤8:=by omega
 have h6:=zK h1;have HA:=hid (fun W (hW:Below w.heap.size w W) k (hk:k < rs.length) aL aR cL cR hL hR2 h3 h4 h5 h6'=>oL rk (rs[k]?.getD ([],[])).1 (rs[k]?.getD ([],[])).2 ar aL aR cr cL cR W ((hR.below hW).mono hW.size) hL hR2 h3 h4 h5 h6' (Tm.bI (hall k hk)).1 (Tm.bI (hall k hk)).2.1 h6);have HV:=hid (fun k (hk:k < rs.length)=>show Tm.ab rk (rs[k]?.getD ([],[])).1 (rs[k]?.getD ([],[])).2 0 0 = Tm.bg rk (rs[k]?.getD ([],[])).1 (rs[k]?.getD ([],[])).2 by
  have e1:=(Tm.bI (hall k hk)).1;have e2:=(Tm.bI (hall k hk)).2.1;unfold Tm.bg Tm.ab;rw [if_pos (Tm.gz h1 e1 e2),Tm.jb (Tm.eT e1),Tm.jb (Tm.eT e2)])
 clear h1 h2 h6 hall h8 hR;go_enter Tryz.func63,Tryz.ntmps63;go_wp2;go_loopw [5] (fun v wr=>∃ k:Nat,k≤rs.length∧v = .int .i64 (k:Int)∧Hid (Tm.lI rk (rs.take k) = true)∧Below w.heap.size w wr) (fun v _=>rs.length - (intOf v).toNat)
 case atStart=>exact ⟨0,Nat.zero_le _,rfl,hid rfl,Below.refl _ _⟩
 case round =>
  obtain ⟨k,hk,rfl,hst,hB⟩:=hrel;by_cases hlt:k < rs.length
  ·have hlt':(k:Int) < (rs.length:Int):=by omega
   obtain ⟨b,off,rfl,hb,aL,cL,aR,cR,g1,g2,g3,g4,g5,g6,g7,g8⟩:=(hI.below hB) k hlt;have hbw:b < wr.heap.size:=Nat.lt_of_lt_of_le hb hB.size;have hs1:=hid (Cq hlt hst.out);have hs2:=hid (fun h=>Gc (rk:=rk) hlt h);have hC:=hid (fun W (hW:Below wr.heap.size wr W)=>HA.out W (hB.trans (hW.mono hB.size)) k hlt aL aR cL cR (((g3.mono hB.size).below hW).mono hW.size) (((g4.mono hB.size).below hW).mono hW.size) g5 g6 g7 g8);rw [HV.out k hlt] at hC;generalize (rs[k]?.getD ([],[])).1 = L at *;generalize (rs[k]?.getD ([],[])).2 = R at *;have hS:=hid (fun w' (hW:Below wr.heap.size wr w')=>(show w'.cell? ⟨b,off+k * 2,none⟩ = some (.slice aL L.length cL)∧w'.cell? ⟨b,off+k * 2+1,none⟩ = some (.slice aR R.length cR) from
    ⟨(hW.cell (p:=⟨b,off+k * 2,none⟩) hbw).trans g1,(hW.cell (p:=⟨b,off+k * 2+1,none⟩) hbw).trans g2⟩))
   clear g3 g4 g5 g6 g7 g8;cases hq:Tm.bg rk L R with
   | true =>
    rw [hq] at hC hs1;clear hq hs2;go_wp2_with fail;go_region_held3 (fun w'=>w'.cell? ⟨b,off+k * 2,none⟩ = some (.slice aL L.length cL)∧w'.cell? ⟨b,off+k * 2+1,none⟩ = some (.slice aR R.length cR)) (first | assumption | exact ⟨g1,g2⟩) (first
     | (go_at_call 64;refine (hC.out _ (dn (Below.refl _ wr))).mono ?_;clear hC;rintro e w2 ⟨rfl,b2⟩;have b3:Below wr.heap.size wr w2:=⟨b2.os,b2.tape,b2.output,b2.size,b2.block⟩;have hS2:=hS.out w2 b3))
    all_goals (
     go_wp2;go_roundw
     case rel=>exact ⟨k+1,by omega,by go_num,hid hs1.out,hB.trans (b3.mono hB.size)⟩
     case measure=>simp [intOf];omega)
   | false =>
    have hno:=hid (hs2.out hq);rw [hq] at hC;clear hq hs1 hs2;go_wp2_with fail;go_region_held3 (fun w'=>w'.cell? ⟨b,off+k * 2,none⟩ = some (.slice aL L.length cL)∧w'.cell? ⟨b,off+k * 2+1,none⟩ = some (.slice aR R.length cR)) (first | assumption | exact ⟨g1,g2⟩) (first
     | (go_at_call 64;refine (hC.out _ (dn (Below.refl _ wr))).mono ?_;clear hC;rintro e w2 ⟨rfl,b2⟩;have b3:Below wr.heap.size wr w2:=⟨b2.os,b2.tape,b2.output,b2.size,b2.block⟩;have hS2:=hS.out w2 b3))
    all_goals (
     go_wp2;go_ret;exact ⟨by rw [hno.out];rfl,hB.trans (b3.mono hB.size)⟩)
  ·obtain rfl:k = rs.length:=by omega
   rw [List.take_length] at hst;go_wp2;go_ret;exact ⟨by rw [hst.out];rfl,hB⟩
theorem KV (rk:List Int) (rs:aH) (ar a:Option Addr) (cr cap:Nat) (w:World) (hR:Ints w.heap.size w ar rk) (hI:aJ w.heap.size w a rs) :
 Calls Tryz.prog 35 #[.slice ar rk.length cr,.slice a rs.length cap] w fun e w'=>e = .returned (.tuple #[.bool (Tm.dJ rk rs),.int .i64 (Tm.dD rk rs)])∧Below w.heap.size w w':=by
 have C1:=rY rk ar cr w hR;have C2:=jR rs a cap w hI;by_cases h1:Tm.aZ rk = 0
 ·rw [h1] at C1
  have he:Tm.dD rk rs = Tm.aO rs:=by unfold Tm.dD;rw [if_pos h1]
  by_cases h2:Tm.aO rs = 0
  ·have C3:=hid (fun W (hW:Below w.heap.size w W)=>Jb rk rs ar a cr cap W ((hR.below hW).mono hW.size) ((hI.below hW).mono hW.size) h1 h2)
   rw [h2] at C2;have hv:Tm.dJ rk rs = Tm.lI rk rs:=by unfold Tm.dJ;rw [he,if_pos h2]
   rw [hv,he,h2];clear h1 h2 he hv hR hI;generalize Tm.lI rk rs = q at *;go_enter Tryz.func35,Tryz.ntmps35;go_wp2_with fail;refine C1.mono ?_;rintro e w ⟨rfl,rfl⟩;go_wp2_with fail;refine C2.mono ?_;rintro e w1 ⟨rfl,b1⟩;go_wp2_with fail;refine (C3.out w1 b1).mono ?_;rintro e w2 ⟨rfl,b2⟩;go_wp2;go_ret2
   exact ⟨rfl,b1.trans (b2.mono b1.size)⟩
  ·have hv:Tm.dJ rk rs = false:=by unfold Tm.dJ;rw [he,if_neg h2]
   have hn:(Tm.aO rs != 0) = true:=by simpa using h2
   rw [hv,he];clear h1 h2 he hv hR hI;generalize Tm.aO rs = q at *;go_enter Tryz.func35,Tryz.ntmps35;go_wp2_with fail;refine C1.mono ?_;rintro e w ⟨rfl,rfl⟩;go_wp2_with fail;refine C2.mono ?_;rintro e w1 ⟨rfl,b1⟩;go_wp2;go_ret2
   exact ⟨rfl,b1⟩
 ·have he:Tm.dD rk rs = Tm.aZ rk:=by unfold Tm.dD;rw [if_neg h1]
  have hv:Tm.dJ rk rs = false:=by unfold Tm.dJ;rw [he,if_neg h1]
  have hn:(Tm.aZ rk != 0) = true:=by simpa using h1
  rw [hv,he];clear h1 he hv hR hI C2;generalize Tm.aZ rk = q at *;go_enter Tryz.func35,Tryz.ntmps35;go_wp2_with fail;refine C1.mono ?_;rintro e w ⟨rfl,rfl⟩;go_wp2;go_ret2
  exact ⟨rfl,Below.refl _ _⟩
end
theorem FM (rk:List Int) (rs:aH) (ps:ah) (ar al a:Option Addr) (cr cl cap:Nat) (w:World) (hR:Ints w.heap.size w ar rk) (hL:aJ w.heap.size w al rs) (hP:aJ w.heap.size w a ps) (hzl:al = none→cl = 0) (hc1:ps.length≤cap) (hc2:cap≤maxLen) :
 Calls Tryz.prog 7 #[.slice ar rk.length cr,.slice al rs.length cl,.slice a ps.length cap] w fun e w'=>∃ er rs' ps' v u m,Tm.fw rk rs ps er rs' ps'∧e = .returned (.tuple #[v,u,.int .i64 er])∧aU true 54 m m w' v rs'∧aU true 40 m m w' u ps'∧Below w.heap.size w w':=by
 have hm:(ps.length:Int)≤9223372036854775807:=by unfold maxLen at hc2;omega
 have C1:=hid (rY rk ar cr w hR);have C2:=hid (zo ps a cap w hP);have C3:=hid (fun W (hW:Below w.heap.size w W)=>KV rk rs ar al cr cl W ((hR.below hW).mono hW.size) ((hL.below hW).mono hW.size));have hE:Hid (Tm.iB rk rs ps = if Tm.jo rk ps = 0 then (if Tm.dD rk rs = 0 then (if Tm.dJ rk rs = true then (if ps.length = 0 then 5 else 0) else 6) else Tm.dD rk rs) else Tm.jo rk ps):=rfl;have Uz:Hid (Tm.jo rk ps = if Tm.aZ rk = 0 then Tm.gU ps else Tm.aZ rk):=rfl;have hbad:Hid (Tm.iB rk rs ps≠0→Tm.fw rk rs ps (Tm.iB rk rs ps) [] []):=fun h=>.inl ⟨h,rfl,rfl,rfl⟩
 by_cases e1:Tm.aZ rk = 0
 ·rw [e1] at C1
  rw [if_pos e1] at Uz;by_cases e2:Tm.gU ps = 0
  ·rw [e2] at C2
   rw [Uz.out,if_pos e2] at hE;by_cases e3:Tm.dD rk rs = 0
   ·rw [if_pos e3] at hE
    rw [e3] at C3;cases e4:Tm.dJ rk rs with
    | true =>
     rw [e4,if_pos rfl] at hE;rw [e4] at C3;cases ps with
     | nil =>
      rw [if_pos (by simp)] at hE;have hs:=hid (hbad.out (by rw [hE.out];decide));rw [hE.out] at hs;simp only [List.length_nil] at C2 ⊢;clear hbad hE Uz e1 e2 e3 e4 hR hL hP;go_enter Tryz.func7,Tryz.ntmps7;go_wp2_with fail;refine C1.out.mono ?_;rintro e w ⟨rfl,rfl⟩;go_wp2_with fail;refine C2.out.mono ?_;rintro e w1 ⟨rfl,b1⟩;go_wp2_with fail;refine (C3.out w1 b1).mono ?_;rintro e w2 ⟨rfl,b2⟩;go_wp2;go_ret3
      exact ⟨5,[],[],_,_,0,hs.out,rfl,aU.nil _ _ _ _,aU.nil _ _ _ _,b1.trans (b2.mono b1.size)⟩
     | cons p l =>
      rw [if_neg (by simp)] at hE;have hT:=hid (fun W (hW:Below w.heap.size w W)=>KS rk rs p l ar al a cr cl cap W ((hR.below hW).mono hW.size) ((hL.below hW).mono hW.size) ((hP.below hW).mono hW.size) hzl hc1 hc2 hE.out);have hlen:(p :: l).length = l.length+1:=rfl;have hq:((l.length:Int)+1 == 0) = false:=by rw [beq_eq_false_iff_ne];omega
      rw [hlen] at C2 hm ⊢;have hm':(l.length:Int)+1≤9223372036854775807:=by omega
      clear hbad hE Uz e1 e2 e3 e4 hR hL hP hlen hm;go_enter Tryz.func7,Tryz.ntmps7;go_wp2_with fail;refine C1.out.mono ?_;rintro e w ⟨rfl,rfl⟩;go_wp2_with fail;refine C2.out.mono ?_;rintro e w1 ⟨rfl,b1⟩;go_wp2_with fail;refine (C3.out w1 b1).mono ?_;rintro e w2 ⟨rfl,b2⟩;have B2:=b1.trans (b2.mono b1.size);clear C1 C2 C3;go_wp2_with fail;refine (hT.out w2 B2).mono ?_;rintro e w3 ⟨er,rs',ps',v,u,m,hs,rfl,n3,m3,b3⟩;obtain ⟨a9,c9,rfl⟩:=n3.slice;obtain ⟨a10,c10,rfl⟩:=m3.slice;have Hs:=hid hs;have N3:=hid n3;have M3:=hid m3;clear hT hs n3 m3;go_wp2;go_ret3
      exact ⟨er,rs',ps',_,_,m,Hs.out,rfl,N3.out,M3.out,B2.trans (b3.mono B2.size)⟩
    | false =>
     rw [e4,if_neg (by decide)] at hE;rw [e4] at C3;have hs:=hid (hbad.out (by rw [hE.out];decide));rw [hE.out] at hs;clear hbad hE Uz e1 e2 e3 e4 hR hL hP;go_enter Tryz.func7,Tryz.ntmps7;go_wp2_with fail;refine C1.out.mono ?_;rintro e w ⟨rfl,rfl⟩;go_wp2_with fail;refine C2.out.mono ?_;rintro e w1 ⟨rfl,b1⟩;go_wp2_with fail;refine (C3.out w1 b1).mono ?_;rintro e w2 ⟨rfl,b2⟩;go_wp2;go_ret3
     exact ⟨6,[],[],_,_,0,hs.out,rfl,aU.nil _ _ _ _,aU.nil _ _ _ _,b1.trans (b2.mono b1.size)⟩
   ·rw [if_neg e3] at hE
    have hne:(Tm.dD rk rs != 0) = true:=by simpa using e3
    have hs:=hid (hbad.out (by rw [hE.out];exact e3));rw [hE.out] at hs;clear hbad hE Uz e1 e2 e3 hR hL hP;generalize Tm.dD rk rs = q at *;generalize Tm.dJ rk rs = fv at *;go_enter Tryz.func7,Tryz.ntmps7;go_wp2_with fail;refine C1.out.mono ?_;rintro e w ⟨rfl,rfl⟩;go_wp2_with fail;refine C2.out.mono ?_;rintro e w1 ⟨rfl,b1⟩;go_wp2_with fail;refine (C3.out w1 b1).mono ?_;rintro e w2 ⟨rfl,b2⟩;go_wp2;go_ret3
    exact ⟨q,[],[],_,_,0,hs.out,rfl,aU.nil _ _ _ _,aU.nil _ _ _ _,b1.trans (b2.mono b1.size)⟩
  ·rw [Uz.out,if_neg e2] at hE
   have hne:(Tm.gU ps != 0) = true:=by simpa using e2
   have hs:=hid (hbad.out (by rw [hE.out];exact e2));rw [hE.out] at hs;clear hbad hE Uz e1 e2 hR hL hP C3;generalize Tm.gU ps = q at *;go_enter Tryz.func7,Tryz.ntmps7;go_wp2_with fail;refine C1.out.mono ?_;rintro e w ⟨rfl,rfl⟩;go_wp2_with fail;refine C2.out.mono ?_;rintro e w1 ⟨rfl,b1⟩;go_wp2;go_ret3
   exact ⟨q,[],[],_,_,0,hs.out,rfl,aU.nil _ _ _ _,aU.nil _ _ _ _,b1⟩
 ·rw [if_neg e1] at Uz
  rw [Uz.out,if_neg e1] at hE;have hne:(Tm.aZ rk != 0) = true:=by simpa using e1
  have hs:=hid (hbad.out (by rw [hE.out];exact e1));rw [hE.out] at hs;clear hbad hE Uz e1 hR hL hP C2 C3;generalize Tm.aZ rk = q at *;go_enter Tryz.func7,Tryz.ntmps7;go_wp2_with fail;refine C1.out.mono ?_;rintro e w ⟨rfl,rfl⟩;go_wp2;go_ret3
  exact ⟨q,[],[],_,_,0,hs.out,rfl,aU.nil _ _ _ _,aU.nil _ _ _ _,Below.refl _ _⟩
theorem Tm.jP.short {L1 R1 L2 R2:List Int} {pass:Nat→Bool} {m:Nat} {l:ah} (h:Tm.jP L1 R1 L2 R2 pass m l):∀ x∈l,x.1.length≤1000∧x.2.length≤1000:=by
 induction h with
 | zero=>intro x hx;cases hx
 | pass _ _ ih=>exact ih
 | no _ _ _ ih=>exact ih
 | @yes m l val _ _ _ he ih =>
  intro x hx;rcases List.mem_append.1 hx with hx | hx
  ·exact ih x hx
  ·simp only [List.mem_cons,List.not_mem_nil,or_false] at hx
   subst hx;have he':=he;unfold Tm.fD at he';by_cases h1:Tm.fZ L1 (m:Int) R2 = 0
   ·rw [if_pos h1] at he'
    by_cases h2:Tm.bf val (Tm.dX L1 (m:Int) R2) = 0
    ·rw [if_pos h2] at he'
     have l1:=Tm.aI (Tm.l6 h2);have l2:=Tm.aI (Tm.l6 he');have hb:=congrArg List.length (Sn.both (Tm.bJ val (Tm.dX L1 (m:Int) R2)) (Tm.bJ val R1));rw [List.length_append,Tm.bH,List.length_append] at hb;unfold Tm.gm;rw [if_pos he];exact ⟨by show (Tm.plain _).length≤_;omega,by show (Tm.fu _ _).length≤_;omega⟩
    ·rw [if_neg h2] at he';exact absurd he' h2
   ·rw [if_neg h1] at he';exact absurd he' h1
theorem Tm.dS.short {rs:aH} {i j er:Int} {ps:ah} (h:Tm.dS rs i j er ps):∀ x∈ps,x.1.length≤1000∧x.2.length≤1000:=by
 rcases h with ⟨_,_,rfl⟩ | ⟨_,_,_,rfl⟩ | ⟨_,a,b,_,_,_,_,⟨_,h⟩ | ⟨_,rfl⟩⟩
 ·intro x hx;cases hx
 ·intro x hx;cases hx
 ·exact h.short
 ·intro x hx;cases hx
theorem Tm.dS.few {rs:aH} {i j er:Int} {ps:ah} (h:Tm.dS rs i j er ps):ps.length≤1000:=by
 rcases h with ⟨_,_,rfl⟩ | ⟨_,_,_,rfl⟩ | ⟨hr,a,b,ha,_,_,_,⟨_,h⟩ | ⟨_,rfl⟩⟩
 ·simp
 ·simp
 ·have h1:=h.len
  obtain ⟨eL,_⟩:=Tm.bI ((Tm.di hr).2 a ha);have:=Tm.aI eL
  omega
 ·simp
def Tm.Lens (ps:ah):Prop:=ps.length≤1000∧∀ k,k < ps.length→(ps[k]?.getD ([],[])).1.length≤1000∧(ps[k]?.getD ([],[])).2.length≤1000
theorem Tm.Lens.nil:Tm.Lens []:=⟨by simp,fun k hk=>by simp at hk⟩
theorem Tm.Lens.of {ps:ah} (hl:ps.length≤1000) (h:∀ x∈ps,x.1.length≤1000∧x.2.length≤1000):Tm.Lens ps:=⟨hl,fun k hk=>by
 rw [List.getElem?_eq_getElem hk];exact h _ (List.getElem_mem hk)⟩
theorem Tm.UA {rs:aH} {ws:List (Nat × Nat)} {k:Nat} {l:ah} (h:Tm.jB rs ws k l):∀ x∈l,x.1.length≤1000∧x.2.length≤1000:=by
 obtain ⟨f,h1,rfl⟩:=h;intro x hx;obtain ⟨l,hl,hx⟩:=List.mem_flatten.1 hx;obtain ⟨j,hj,rfl⟩:=List.mem_map.1 hl;rw [List.mem_range] at hj;exact Tm.dS.short (h1 j hj) x hx
theorem Tm.Gy {rk:List Int} {rs:aH} {ps:ah} {er:Int} {rs':aH} {ps':ah} (h:Tm.fw rk rs ps er rs' ps'):Tm.Lens rs'∧Tm.Lens ps':=by
 rcases h with ⟨_,_,rfl,rfl⟩ | ⟨h0,p,l,rfl,h⟩
 ·exact ⟨.nil,.nil⟩
 ·obtain ⟨k1,k2,k3,k4,_⟩:=Tm.pE h0
  obtain ⟨h8,hall⟩:=Tm.di k4;have hr:∀ x∈rs,x.1.length≤1000∧x.2.length≤1000:=fun x hx=>by
   obtain ⟨k,hk,rfl⟩:=List.getElem_of_mem hx;have:=hall k hk
   rw [List.getElem?_eq_getElem hk,Option.getD_some] at this;obtain ⟨e1,e2,_⟩:=Tm.bI this;have:=Tm.aI e1
   have:=Tm.aI e2
   exact ⟨by omega,by omega⟩
  have hp:∀ x∈p :: l,x.1.length≤1000∧x.2.length≤1000:=fun x hx=>by
   obtain ⟨k,hk,rfl⟩:=List.getElem_of_mem hx;have:=Tm.nC k3 k hk
   rw [List.getElem?_eq_getElem hk,Option.getD_some] at this;have h1:=Tm.aI this.1;have h2:=Tm.aI this.2;exact ⟨by omega,by omega⟩
  have hll:l.length≤1000:=by simp at k2;omega
  rcases h with ⟨_,_,rfl,rfl⟩ | ⟨_,_,_,rfl,rfl⟩ | ⟨_,_,_,_,rfl,rfl⟩ | ⟨hj,_,hd,hw⟩
  ·exact ⟨.nil,.nil⟩
  ·exact ⟨.of (by omega) hr,.of hll fun x hx=>hp x (by simp [hx])⟩
  ·exact ⟨.nil,.nil⟩
  ·obtain ⟨f1,f2⟩:=Tm.Ct hj
   have hdr:=Tm.BV (Tm.ky f1) (Tm.ky f2) hd;have l1:=Tm.aI hdr.1;have l2:=Tm.aI hdr.2;rcases hw with ⟨_,_,rfl,rfl⟩ | ⟨w1,e,q,hl,⟨_,_,rfl,rfl⟩ | ⟨_,_,_,rfl,rfl⟩ | ⟨he,hq,_,rfl,rfl⟩⟩
   ·exact ⟨.nil,.nil⟩
   ·exact ⟨.nil,.nil⟩
   ·exact ⟨.nil,.nil⟩
   ·refine ⟨.of (by rw [List.length_append];simp;omega) fun x hx=>?_,.of (by omega) fun x hx=>?_⟩
    ·rcases List.mem_append.1 hx with hx | hx
     ·exact hr x (List.mem_filter.1 hx).1
     ·simp only [List.mem_cons,List.not_mem_nil,or_false] at hx
      subst hx;exact ⟨Nat.le_trans l1 (by omega),Nat.le_trans l2 (by omega)⟩
    ·rcases List.mem_append.1 hx with hx | hx
     ·rcases List.mem_append.1 hx with hx | hx
      ·exact hp x (by simp [hx])
      ·exact hr x (List.mem_filter.1 hx).1
     ·rcases hl with ⟨_,hl⟩ | ⟨hn,_⟩
      ·exact Tm.UA hl x hx
      ·exact absurd he hn
end Go.Proofs.YtglohanbpjaieaaGreat
