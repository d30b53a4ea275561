/-
  Parts of the proof: Nor4, Clo22, Clo17, RRef3, Clo23, PRef3a, Clo24, Rst8.
-/
import Derived.Test.YtglohanbpjaieaaGreatBrt22
import Derived.Test.YtglohanbpjaieaaGreatBrt32
import Derived.Test.YtglohanbpjaieaaGreatBrt30
import Derived.Test.YtglohanbpjaieaaGreatBrt10
import Derived.Test.YtglohanbpjaieaaGreatBrt25
import Derived.Deep.RegionHeld3
import Derived.Deep.DrawnRows
import Derived.Test.YtglohanbpjaieaaGreatBrt19
import Derived.Test.YtglohanbpjaieaaGreatBrt29
import Derived.Test.YtglohanbpjaieaaGreatBrt31
namespace Go.Proofs.YtglohanbpjaieaaGreat
open Go.Proofs Go.RowKit Go.Shelf Go.Maps
theorem Tm.step_err {rs:RuleL} {t:List Int} (h2:Tm.stepErr rs t = 0) {j:Nat} (hj:j < (Tm.stepVal rs t).length):Tm.err ((Tm.stepVal rs t)[j]?.getD (0,0,[])).2.2 = 0:=by
 obtain ⟨hru,ht,hall⟩:=Tm.stepErr_term h2
 have hv:Tm.stepVal rs t = Tm.allL rs t t.length:=by unfold Tm.stepVal;rw [if_pos h2]
 rw [hv] at hj ⊢
 obtain ⟨x,hx⟩:∃ x,(Tm.allL rs t t.length)[j]?.getD (0,0,[]) = x:=⟨_,rfl⟩
 have hm:x∈Tm.allL rs t t.length:=by rw [← hx,List.getElem?_eq_getElem hj,Option.getD_some];exact List.getElem_mem hj
 rw [hx]
 obtain ⟨ha,hk,hb,hu⟩:=Tm.allL_mem _ hm
 have he:=Tm.allE_all _ hall _ ha _ hk hb
 obtain ⟨eL,eR,_⟩:=Tm.ruleErr_ok ((Tm.rulesErr_ok hru).2 _ hk)
 obtain ⟨m,hs⟩:=Tm.hit_step hru ht ha hk hb he
 rw [← hu] at hs
 exact (hs.parts eL eR ht ha).2.2.2
set_option maxRecDepth 100000 in
set_option maxHeartbeats 2000000 in
theorem refForm_any (rs:RuleL) (t:List Int) (al at':Option Addr) (cl ct:Nat) (w:World) (hr:Tm.rulesErr rs = 0) (ht:Tm.err t = 0) (hR:RulesAt w.heap.size w al rs) (hT:Ints w.heap.size w at' t) (h1:t.length≤ct) (h2:ct≤maxLen) :
 Calls Tryz.prog 56 #[.slice al rs.length cl,.slice at' t.length ct] w fun e w'=>∃ v,e = .returned (.tuple #[v,.int .i64 ((Tm.form rs t).2.1:Int),.int .i64 (Tm.form rs t).2.2])∧New w.heap.size w' v (Tm.form rs t).1∧Below w.heap.size w w':=by
 unfold Tm.form
 generalize hg:Tm.fm rs 61 t 0 = res
 have HR:=hid hR
 have Hr:=hid hr
 clear hR hr
 go_enter Tryz.func56,Tryz.ntmps56
 go_wp2
 go_loopw [1,7] (fun tv v wr=>∃ (k:Nat) (u:List Int) (a:Option Addr) (c:Nat),k≤60∧v = .int .i64 (k:Int)∧tv = .slice a u.length c∧Hid (Ints wr.heap.size wr a u)∧Hid (Tm.err u = 0)∧u.length≤c∧c≤maxLen∧Hid (Tm.fm rs (61 - k) u k = res)∧Below w.heap.size w wr) (fun _ v _=>61 - (intOf v).toNat)
 case atStart=>exact ⟨0,t,at',ct,by omega,rfl,rfl,hid hT,hid ht,h1,h2,hid hg,Below.refl _ _⟩
 case round =>
  obtain ⟨k,u,a,c,hk,rfl,rfl,hI,hu,hc1,hc2,hst,hB⟩:=hrel
  have hC:=hid (refSteps_any rs u al a cl c wr Hr.out hu.out ((HR.out.below hB).mono hB.size) hI.out hc1 hc2)
  obtain ⟨f,hf⟩:∃ f,61 - k = f+1:=⟨60 - k,by omega⟩
  rw [hf] at hst
  have hki:(k:Int)≤60:=by omega
  unfold StepsAns at hC
  by_cases he:Tm.stepErr rs u = 0
  ·by_cases hn:(Tm.stepVal rs u).length = 0
   ·have hr:=hid ((Tm.fm_end (f:=f) (k:=k) he hn).symm.trans hst.out)
    have h30:=Tm.err_len hu.out
    have hpos:=Tm.err_pos hu.out
    obtain ⟨b,off,ea,_,_⟩:=hI.out.at hpos
    subst ea
    rw [he,List.eq_nil_of_length_eq_zero hn] at hC
    have Hn:=hid hn
    clear he hn hst
    go_wp2_with (first
     | (go_at_call 87;refine hC.out.mono ?_;clear hC;rintro e w1 ⟨v1,rfl,hN1,b1⟩;obtain ⟨va,vc,rfl⟩:=hN1.slice;clear hN1;have hl:New w1.heap.size (w1.alloc (.cells #[] 3)) (.slice (some ⟨w1.heap.size,0,none⟩) 0 0) []:=New.lit w1.heap.size w1 [] (Nat.le_refl _) (by unfold maxLen;simp);have hBn:Below w1.heap.size w1 (w1.alloc (.cells #[] 3)):=(Below.refl _ _).alloc (Nat.le_refl _) _;have i1:=(hI.out.below b1).mono b1.size;have i2:=(i1.below hBn).mono hBn.size)
     | (at_builtin;go_loud (refine wp_append_ints _ rfl _ _ rfl w1.heap.size _ [] rfl hl (some ⟨b,off,none⟩) u c rfl (fun h=>by cases h) i2 (by simp;omega) (by simp) ?_);intro v' w2 hN hB2;obtain ⟨xa,xc,rfl,_⟩:=New.ints hN))
    go_ret3
    have B1:=hB.trans (b1.mono hB.size)
    rw [← hr.out]
    exact ⟨_,rfl,New.mono hN B1.size,B1.trans ((hBn.trans hB2).mono B1.size)⟩
   ·have hp:0 < (Tm.stepVal rs u).length:=by omega
    have hr:=hid ((Tm.fm_go (f:=f) (k:=k) he hp).symm.trans hst.out)
    have hue:=hid (Tm.step_err he hp)
    rw [he] at hC
    clear he hn hst hI hu
    generalize Tm.stepVal rs u = sts at *
    have hpi:(0:Int) < (sts.length:Int):=by omega
    have hne:((sts.length:Int) == 0) = false:=len_no (by omega)
    by_cases h60:k = 60
    ·subst h60
     obtain rfl:f = 0:=by omega
     rw [Tm.fm] at hr
     go_wp2_with (first
      | (go_at_call 87;refine hC.out.mono ?_;clear hC;rintro e w1 ⟨v1,rfl,hN1,b1⟩;obtain ⟨g,cg,rfl⟩:=hN1.slice;clear hN1))
     go_ret3
     rw [← hr.out]
     exact ⟨_,rfl,New.nil _ _,hB.trans (b1.mono hB.size)⟩
    ·have hk60:((k:Int) == 60) = false:=by rw [beq_eq_false_iff_ne];omega
     have hff:f = 61 - (k+1):=by omega
     rw [hff] at hr
     clear hf hff
     go_wp2_with (first
      | (go_at_call 87;refine hC.out.mono ?_;clear hC;rintro e w1 ⟨v1,rfl,hN1,b1⟩;obtain ⟨g,cg,rfl,hat⟩:=hN1.at hp;obtain ⟨x0,y0,_,_,c02,i0,q0,q1⟩:=hat 0 hp;clear hat;simp only [Nat.zero_mul,Nat.zero_add] at c02;have HN:=hid hN1;clear hN1;generalize (sts[0]?.getD (0,0,[])).2.2 = u1 at *))
     go_roundw
     case rel=>exact ⟨k+1,u1,x0,y0,by omega,by go_num,rfl,hid i0,hid hue.out,q0,q1,hid hr.out,hB.trans (b1.mono hB.size)⟩
     case measure=>simp [intOf];omega
  ·have hr:=hid ((Tm.fm_bad (f:=f) (k:=k) he).symm.trans hst.out)
   have hne:(Tm.stepErr rs u != 0) = true:=by simpa using he
   clear he hst hI hu
   generalize Tm.stepErr rs u = q at *
   go_wp2_with (first
    | (go_at_call 87;refine hC.out.mono ?_;clear hC;rintro e w1 ⟨v1,rfl,hN1,b1⟩;obtain ⟨va,vc,rfl⟩:=hN1.slice;clear hN1))
   go_ret3
   rw [← hr.out]
   exact ⟨_,rfl,New.nil _ _,hB.trans (b1.mono hB.size)⟩
set_option maxRecDepth 100000 in
set_option maxHeartbeats 1000000 in
theorem formOf_any (rs:RuleL) (t:List Int) (al at':Option Addr) (cl ct:Nat) (w:World) (hR:RulesAt w.heap.size w al rs) (hT:Ints w.heap.size w at' t) (h1:t.length≤ct) (h2:ct≤maxLen) :
 Calls Tryz.prog 22 #[.slice al rs.length cl,.slice at' t.length ct] w fun e w'=>∃ v,e = .returned (.tuple #[v,.int .i64 ((Tm.form rs t).2.1:Int),.int .i64 (Tm.form rs t).2.2])∧New w.heap.size w' v (Tm.form rs t).1∧Below w.heap.size w w':=by
 have C1:=stepsOf_any rs t al at' cl ct w hR hT h1 h2
 unfold StepsAns at C1
 by_cases he:Tm.stepErr rs t = 0
 ·obtain ⟨k1,k2,_⟩:=Tm.stepErr_term he
  have C2:=hid (fun W (hW:Below w.heap.size w W)=>refForm_any rs t al at' cl ct W k1 k2 ((hR.below hW).mono hW.size) ((hT.below hW).mono hW.size) h1 h2)
  rw [he] at C1
  clear he k1 k2 hR hT
  generalize Tm.form rs t = res at *
  go_enter Tryz.func22,Tryz.ntmps22
  go_wp2_with fail
  refine C1.mono ?_
  rintro e w1 ⟨v1,rfl,hN1,b1⟩
  obtain ⟨x1,c1,rfl⟩:=hN1.slice
  go_wp2_with fail
  refine (C2.out w1 b1).mono ?_
  rintro e w2 ⟨v2,rfl,hN2,b2⟩
  obtain ⟨x2,c2,rfl,_⟩:=New.ints hN2
  go_wp2
  go_ret3
  exact ⟨_,rfl,hN2.mono b1.size,b1.trans (b2.mono b1.size)⟩
 ·have hf:Tm.form rs t = ([],0,Tm.stepErr rs t):=Tm.fm_bad (f:=60) (k:=0) he
  have hne:(Tm.stepErr rs t != 0) = true:=by simpa using he
  rw [hf]
  clear he hf hR hT
  generalize Tm.stepErr rs t = q at *
  go_enter Tryz.func22,Tryz.ntmps22
  go_wp2_with fail
  refine C1.mono ?_
  rintro e w1 ⟨v1,rfl,hN1,b1⟩
  obtain ⟨x1,c1,rfl⟩:=hN1.slice
  go_wp2
  go_ret3
  exact ⟨_,rfl,New.nil _ _,b1⟩
theorem Tm.dir_grow {rk:List Int} {rs:RuleL} {l:PairL} {F G:List Int} {er:Int} {rs':RuleL} {ps':PairL} {X Y:List Int} (hd:Tm.dir rk F G = (Tm.plErr X,Tm.plVal X Y)) (hg:Tm.GrowSays rs l X Y er rs' ps') :
 ((Tm.dir rk F G).1≠0∧er = (Tm.dir rk F G).1∧rs' = []∧ps' = [])∨((Tm.dir rk F G).1 = 0∧Tm.WithSays rs l (Tm.dir rk F G).2.1 (Tm.dir rk F G).2.2 er rs' ps'):=by
 rw [hd]
 rcases hg with ⟨h1,h2⟩ | ⟨h1,h2⟩
 ·exact .inl ⟨h1,h2⟩
 ·refine .inr ⟨h1,?_⟩
  unfold Tm.plVal
  rw [if_pos h1]
  exact h2
set_option maxRecDepth 100000 in
set_option maxHeartbeats 8000000 in
theorem refTurn_any (rk:List Int) (rs:RuleL) (p:List Int × List Int) (l:PairL) (ar al a:Option Addr) (cr cl cap:Nat) (w:World) (hR:Ints w.heap.size w ar rk) (hL:RulesAt w.heap.size w al rs) (hP:RulesAt w.heap.size w a (p :: l)) (hzl:al = none→cl = 0) (hc1:l.length+1≤cap) (hc2:cap≤maxLen) (ht:Tm.turnErr rk rs (p :: l) = 0) :
 Calls Tryz.prog 36 #[.slice ar rk.length cr,.slice al rs.length cl,.slice a (l.length+1) cap] w fun e w'=>∃ er rs' ps' v u m,Tm.TurnSays rk rs (p :: l) er rs' ps'∧e = .returned (.tuple #[v,u,.int .i64 er])∧NewX true 54 m m w' v rs'∧NewX true 40 m m w' u ps'∧Below w.heap.size w w':=by
 obtain ⟨k1,k2,k3,k4,k5,k6,k7⟩:=Tm.turnErr_zero ht
 have hS:Hid (∀ er rs' ps',((Tm.joinErr rs p.1 p.2≠0∧er = Tm.joinErr rs p.1 p.2∧rs' = []∧ps' = []) ∨
  (Tm.joinErr rs p.1 p.2 = 0∧(Tm.form rs p.1).1 = (Tm.form rs p.2).1∧er = 0∧rs' = rs∧ps' = l) ∨
  (Tm.joinErr rs p.1 p.2 = 0∧(Tm.form rs p.1).1≠(Tm.form rs p.2).1∧(Tm.dir rk (Tm.form rs p.1).1 (Tm.form rs p.2).1).1≠0∧er = (Tm.dir rk (Tm.form rs p.1).1 (Tm.form rs p.2).1).1∧rs' = []∧ps' = []) ∨
  (Tm.joinErr rs p.1 p.2 = 0∧(Tm.form rs p.1).1≠(Tm.form rs p.2).1∧(Tm.dir rk (Tm.form rs p.1).1 (Tm.form rs p.2).1).1 = 0∧Tm.WithSays rs l (Tm.dir rk (Tm.form rs p.1).1 (Tm.form rs p.2).1).2.1 (Tm.dir rk (Tm.form rs p.1).1 (Tm.form rs p.2).1).2.2 er rs' ps'))→Tm.TurnSays rk rs (p :: l) er rs' ps'):=fun er rs' ps' h=>.inr ⟨ht,p,l,rfl,h⟩
 have hep:=Tm.firstP_zero k3 0 (by simp)
 simp only [List.getElem?_cons_zero,Option.getD_some] at hep
 obtain ⟨h8,_⟩:=Tm.rulesErr_ok k4
 have hl39:l.length≤39:=by simp at k2;omega
 obtain ⟨b,off,rfl,hb,aP,cP,aQ,cQ,g1,g2,g3,g4,g5,g6,g7,g8⟩:=hP 0 (by simp)
 rw [Nat.zero_mul,Nat.add_zero] at g1 g2
 simp only [List.getElem?_cons_zero,Option.getD_some] at g1 g2 g3 g4 g5 g7
 have hTl:=hid hP.tail
 have hcell:=hid (fun W (hW:Below w.heap.size w W)=>(show W.cell? ⟨b,off,none⟩ = some (.slice aP p.1.length cP)∧W.cell? ⟨b,off+1,none⟩ = some (.slice aQ p.2.length cQ) from ⟨(hW.cell (p:=⟨b,off,none⟩) hb).trans g1,(hW.cell (p:=⟨b,off+1,none⟩) hb).trans g2⟩))
 have HL:=hid (fun W (hW:Below w.heap.size w W)=>hL.below hW)
 have HR:=hid (fun W (hW:Below w.heap.size w W)=>(hR.below hW).mono hW.size)
 have hF1:=hid (refForm_any rs p.1 al aP cl cP w k4 hep.1 hL g3 g5 g6)
 have hF2:=hid (fun W (hW:Below w.heap.size w W)=>refForm_any rs p.2 al aQ cl cQ W k4 hep.2 ((hL.below hW).mono hW.size) ((g4.below hW).mono hW.size) g7 g8)
 have Hk1:=hid k1
 have Hk4:=hid k4
 obtain ⟨P,Q⟩:=p
 dsimp only at hS hF1 hF2 hcell g1 g2 g5 g7
 have hje:Hid (Tm.joinErr rs P Q = if (Tm.form rs P).2.2 = 0 then (Tm.form rs Q).2.2 else (Tm.form rs P).2.2):=rfl
 have hl39':(l.length:Int)≤39:=by omega
 have hl0':(0:Int) < (l.length:Int)+1:=by omega
 have hc2':(cap:Int)≤9223372036854775807:=by unfold maxLen at hc2;omega
 have hc3':(l.length:Int)+1≤(cap:Int):=by omega
 clear hR hL hP g3 g4 ht k2 k3 k5 k6 k7 hep k4
 by_cases f1:(Tm.form rs P).2.2 = 0
 ·rw [if_pos f1] at hje
  have eF:=Tm.form_right f1
  rw [f1] at hF1
  by_cases f2:(Tm.form rs Q).2.2 = 0
  ·have eG:=Tm.form_right f2
   rw [f2] at hF2 hje
   rw [hje.out] at hS
   clear f1 f2 hje
   generalize (Tm.form rs P).1 = F at *
   generalize (Tm.form rs Q).1 = G at *
   generalize (Tm.form rs P).2.1 = n1 at *
   generalize (Tm.form rs Q).2.1 = n2 at *
   have lF:=Tm.err_len eF
   have lG:=Tm.err_len eG
   have hEq:=hid (fun W a1 a2 c1 c2 q1 q2=>same_any F G a1 a2 c1 c2 W q1 q2 (by unfold maxLen;omega))
   have r1:(1:Int)≤(l.length:Int)+1:=by omega
   have r4:(1:Int)≤(cap:Int):=by omega
   by_cases hFG:F = G
   ·rw [show sameB F G = true by simp [sameB,hFG]] at hEq
    have Hs:=hid (hS.out 0 rs l (.inr (.inl ⟨rfl,hFG,rfl,rfl,rfl⟩)))
    clear hS hFG
    by_cases hcap:cap = 1
    ·subst hcap
     obtain rfl:l = []:=List.eq_nil_of_length_eq_zero (by omega)
     simp only [List.length_nil,Nat.zero_add]
     go_enter Tryz.func36,Tryz.ntmps36
     go_wp2_with fail
     refine hF1.out.mono ?_
     rintro e w1 ⟨v1,rfl,N1,b1⟩
     obtain ⟨aF,cF,rfl,iF,pF,pF'⟩:=New.ints N1
     obtain ⟨x0,x1⟩:=hcell.out w1 b1
     clear hF1
     go_wp2_with fail
     refine (hF2.out w1 b1).mono ?_
     rintro e w2 ⟨v2,rfl,N2,b2⟩
     obtain ⟨aG,cG,rfl,iG,pG,pG'⟩:=New.ints N2
     have B2:=b1.trans (b2.mono b1.size)
     have iF2:=(iF.below b2).mono b2.size
     clear hF2 x0 x1 N1 N2
     go_wp2_with fail
     refine (hEq.out w2 aF aG cF cG iF2 iG).mono ?_
     rintro e w3 ⟨rfl,b3⟩
     have B3:=B2.trans (b3.mono B2.size)
     have hb3:w.heap.size≤w3.heap.size:=B3.size
     have hMR:=hid (fun V (hV:Below w.heap.size w V)=>HL.out V hV)
     have hMP:=hid (fun V (hV:Below w.heap.size w V)=>(show RulesAt w.heap.size V (some ⟨b,off,none⟩) [] from fun k hk=>by simp at hk))
     have e1:Hid (∀ V,SameW V (w3.alloc (.cells #[] 54))→Rdy 54 w.heap.size w V w3.heap.size):=fun V hV=>(Rdy.new _ B3 hb3).same hV
     have e4:Hid (∀ V,SameW V (w3.alloc (.cells #[] 40))→Rdy 40 w.heap.size w V w3.heap.size):=fun V hV=>(Rdy.new _ B3 hb3).same hV
     have e2:Hid (∀ V,SameW V ((w3.alloc (.cells #[] 54)).alloc (.cells #[] 40))→Rdy 54 w.heap.size w V w3.heap.size∧Rdy 40 w.heap.size w V (w3.heap.size+1)):=fun V hV=>by
      have h1:=Rdy.new 54 B3 hb3
      have h2:=Rdy.new 40 h1.2 h1.2.size
      rw [World.size_alloc] at h2
      exact ⟨(h1.alloc h1.2.size _).same hV,h2.same hV⟩
     have e3:Hid (∀ V,SameW V ((w3.alloc (.cells #[] 40)).alloc (.cells #[] 54))→Rdy 40 w.heap.size w V w3.heap.size∧Rdy 54 w.heap.size w V (w3.heap.size+1)):=fun V hV=>by
      have h1:=Rdy.new 40 B3 hb3
      have h2:=Rdy.new 54 h1.2 h1.2.size
      rw [World.size_alloc] at h2
      exact ⟨(h1.alloc h1.2.size _).same hV,h2.same hV⟩
     go_wp2
     go_region_held3 (fun _=>True) (first | trivial)
      (first
        | (refine step_rdy_r _ (by rfl) _ _ (by rfl) w.heap.size _ w (by rfl) (by first | exact e1.out _ ⟨by rfl,by rfl,by rfl,by rfl⟩ | exact (e2.out _ ⟨by rfl,by rfl,by rfl,by rfl⟩).1 | exact (e3.out _ ⟨by rfl,by rfl,by rfl,by rfl⟩).2 | exact (rR.out _ ⟨by rfl,by rfl,by rfl,by rfl⟩).1 | exact (rRa.out _ ⟨by rfl,by rfl,by rfl,by rfl⟩).1) al cl rs (by rfl) hzl hMR.out (Nat.le_refl _) (by omega) ?_;intro vR wR nR tR dR zR;obtain ⟨xR,yR,rfl⟩:=nR.slice;
           have rPa:Hid (∀ V,SameW V (wR.alloc (.cells #[] 40))→Rdy 40 w.heap.size w V wR.heap.size∧NewX true 54 w.heap.size w.heap.size V (.slice xR rs.length yR) rs):=fun V hV=>⟨(Rdy.new _ zR zR.size).same hV,(nR.below ((Below.refl _ _).alloc (Nat.le_refl _) _)).same hV.1⟩;
           (try have rP:Hid (∀ V,SameW V wR→Rdy 40 w.heap.size w V (w3.heap.size+1)∧NewX true 54 w.heap.size w.heap.size V (.slice xR rs.length yR) rs):=fun V hV=>⟨(dR _ (e2.out _ ⟨by rfl,by rfl,by rfl,by rfl⟩).2).same hV,nR.same hV.1⟩);
           (try have rP:Hid (∀ V,SameW V wR→Rdy 40 w.heap.size w V w3.heap.size∧NewX true 54 w.heap.size w.heap.size V (.slice xR rs.length yR) rs):=fun V hV=>⟨(dR _ (e3.out _ ⟨by rfl,by rfl,by rfl,by rfl⟩).1).same hV,nR.same hV.1⟩);
           (try have FIN:=hid (And.intro nR (And.intro (tR _ _ (rR.out _ ⟨by rfl,by rfl,by rfl,by rfl⟩).2) zR)));
           (try have FIN:=hid (And.intro nR (And.intro (tR _ _ (rRa.out _ ⟨by rfl,by rfl,by rfl,by rfl⟩).2) zR))))
        | (refine step_rdy_p _ (by rfl) _ _ (by rfl) w.heap.size _ w (by rfl) (by first | exact e4.out _ ⟨by rfl,by rfl,by rfl,by rfl⟩ | exact (e2.out _ ⟨by rfl,by rfl,by rfl,by rfl⟩).2 | exact (e3.out _ ⟨by rfl,by rfl,by rfl,by rfl⟩).1 | exact (rP.out _ ⟨by rfl,by rfl,by rfl,by rfl⟩).1 | exact (rPa.out _ ⟨by rfl,by rfl,by rfl,by rfl⟩).1) (some ⟨b,off,none⟩) 0 [] (by rfl) (fun e=>by cases e) hMP.out (Nat.le_refl _) (by omega) ?_;intro vP wP nP tP dP zP;obtain ⟨xP,yP,rfl⟩:=nP.slice;
           have rRa:Hid (∀ V,SameW V (wP.alloc (.cells #[] 54))→Rdy 54 w.heap.size w V wP.heap.size∧NewX true 40 w.heap.size w.heap.size V (.slice xP 0 yP) []):=fun V hV=>⟨(Rdy.new _ zP zP.size).same hV,(nP.below ((Below.refl _ _).alloc (Nat.le_refl _) _)).same hV.1⟩;
           (try have rR:Hid (∀ V,SameW V wP→Rdy 54 w.heap.size w V w3.heap.size∧NewX true 40 w.heap.size w.heap.size V (.slice xP 0 yP) []):=fun V hV=>⟨(dP _ (e2.out _ ⟨by rfl,by rfl,by rfl,by rfl⟩).1).same hV,nP.same hV.1⟩);
           (try have rR:Hid (∀ V,SameW V wP→Rdy 54 w.heap.size w V (w3.heap.size+1)∧NewX true 40 w.heap.size w.heap.size V (.slice xP 0 yP) []):=fun V hV=>⟨(dP _ (e3.out _ ⟨by rfl,by rfl,by rfl,by rfl⟩).2).same hV,nP.same hV.1⟩);
           (try have FIN:=hid (And.intro (tP _ _ (rP.out _ ⟨by rfl,by rfl,by rfl,by rfl⟩).2) (And.intro nP zP)));
           (try have FIN:=hid (And.intro (tP _ _ (rPa.out _ ⟨by rfl,by rfl,by rfl,by rfl⟩).2) (And.intro nP zP)))))
     all_goals (
      go_wp2
      go_ret3
      exact ⟨0,rs,[],_,_,_,Hs.out,rfl,FIN.out.1,FIN.out.2.1,FIN.out.2.2⟩)
    ·have r3:¬ cap - 1 = 0:=by omega
     go_enter Tryz.func36,Tryz.ntmps36
     go_wp2_with fail
     refine hF1.out.mono ?_
     rintro e w1 ⟨v1,rfl,N1,b1⟩
     obtain ⟨aF,cF,rfl,iF,pF,pF'⟩:=New.ints N1
     obtain ⟨x0,x1⟩:=hcell.out w1 b1
     clear hF1
     go_wp2_with fail
     refine (hF2.out w1 b1).mono ?_
     rintro e w2 ⟨v2,rfl,N2,b2⟩
     obtain ⟨aG,cG,rfl,iG,pG,pG'⟩:=New.ints N2
     have B2:=b1.trans (b2.mono b1.size)
     have iF2:=(iF.below b2).mono b2.size
     clear hF2 x0 x1 N1 N2
     go_wp2_with fail
     refine (hEq.out w2 aF aG cF cG iF2 iG).mono ?_
     rintro e w3 ⟨rfl,b3⟩
     have B3:=B2.trans (b3.mono B2.size)
     have hb3:w.heap.size≤w3.heap.size:=B3.size
     have hMR:=hid (fun V (hV:Below w.heap.size w V)=>HL.out V hV)
     have hMP:=hid (fun V (hV:Below w.heap.size w V)=>hTl.out.below hV)
     have e1:Hid (∀ V,SameW V (w3.alloc (.cells #[] 54))→Rdy 54 w.heap.size w V w3.heap.size):=fun V hV=>(Rdy.new _ B3 hb3).same hV
     have e4:Hid (∀ V,SameW V (w3.alloc (.cells #[] 40))→Rdy 40 w.heap.size w V w3.heap.size):=fun V hV=>(Rdy.new _ B3 hb3).same hV
     have e2:Hid (∀ V,SameW V ((w3.alloc (.cells #[] 54)).alloc (.cells #[] 40))→Rdy 54 w.heap.size w V w3.heap.size∧Rdy 40 w.heap.size w V (w3.heap.size+1)):=fun V hV=>by
      have h1:=Rdy.new 54 B3 hb3
      have h2:=Rdy.new 40 h1.2 h1.2.size
      rw [World.size_alloc] at h2
      exact ⟨(h1.alloc h1.2.size _).same hV,h2.same hV⟩
     have e3:Hid (∀ V,SameW V ((w3.alloc (.cells #[] 40)).alloc (.cells #[] 54))→Rdy 40 w.heap.size w V w3.heap.size∧Rdy 54 w.heap.size w V (w3.heap.size+1)):=fun V hV=>by
      have h1:=Rdy.new 40 B3 hb3
      have h2:=Rdy.new 54 h1.2 h1.2.size
      rw [World.size_alloc] at h2
      exact ⟨(h1.alloc h1.2.size _).same hV,h2.same hV⟩
     go_wp2
     go_region_held3 (fun _=>True) (first | trivial)
      (first
        | (refine step_rdy_r _ (by rfl) _ _ (by rfl) w.heap.size _ w (by rfl) (by first | exact e1.out _ ⟨by rfl,by rfl,by rfl,by rfl⟩ | exact (e2.out _ ⟨by rfl,by rfl,by rfl,by rfl⟩).1 | exact (e3.out _ ⟨by rfl,by rfl,by rfl,by rfl⟩).2 | exact (rR.out _ ⟨by rfl,by rfl,by rfl,by rfl⟩).1 | exact (rRa.out _ ⟨by rfl,by rfl,by rfl,by rfl⟩).1) al cl rs (by rfl) hzl hMR.out (Nat.le_refl _) (by omega) ?_;intro vR wR nR tR dR zR;obtain ⟨xR,yR,rfl⟩:=nR.slice;
           have rPa:Hid (∀ V,SameW V (wR.alloc (.cells #[] 40))→Rdy 40 w.heap.size w V wR.heap.size∧NewX true 54 w.heap.size w.heap.size V (.slice xR rs.length yR) rs):=fun V hV=>⟨(Rdy.new _ zR zR.size).same hV,(nR.below ((Below.refl _ _).alloc (Nat.le_refl _) _)).same hV.1⟩;
           (try have rP:Hid (∀ V,SameW V wR→Rdy 40 w.heap.size w V (w3.heap.size+1)∧NewX true 54 w.heap.size w.heap.size V (.slice xR rs.length yR) rs):=fun V hV=>⟨(dR _ (e2.out _ ⟨by rfl,by rfl,by rfl,by rfl⟩).2).same hV,nR.same hV.1⟩);
           (try have rP:Hid (∀ V,SameW V wR→Rdy 40 w.heap.size w V w3.heap.size∧NewX true 54 w.heap.size w.heap.size V (.slice xR rs.length yR) rs):=fun V hV=>⟨(dR _ (e3.out _ ⟨by rfl,by rfl,by rfl,by rfl⟩).1).same hV,nR.same hV.1⟩);
           (try have FIN:=hid (And.intro nR (And.intro (tR _ _ (rR.out _ ⟨by rfl,by rfl,by rfl,by rfl⟩).2) zR)));
           (try have FIN:=hid (And.intro nR (And.intro (tR _ _ (rRa.out _ ⟨by rfl,by rfl,by rfl,by rfl⟩).2) zR))))
        | (refine step_rdy_p _ (by rfl) _ _ (by rfl) w.heap.size _ w (by rfl) (by first | exact e4.out _ ⟨by rfl,by rfl,by rfl,by rfl⟩ | exact (e2.out _ ⟨by rfl,by rfl,by rfl,by rfl⟩).2 | exact (e3.out _ ⟨by rfl,by rfl,by rfl,by rfl⟩).1 | exact (rP.out _ ⟨by rfl,by rfl,by rfl,by rfl⟩).1 | exact (rPa.out _ ⟨by rfl,by rfl,by rfl,by rfl⟩).1) (some ⟨b,off+2,none⟩) (cap - 1) l (by rfl) (fun e=>by cases e) hMP.out (Nat.le_refl _) (by omega) ?_;intro vP wP nP tP dP zP;obtain ⟨xP,yP,rfl⟩:=nP.slice;
           have rRa:Hid (∀ V,SameW V (wP.alloc (.cells #[] 54))→Rdy 54 w.heap.size w V wP.heap.size∧NewX true 40 w.heap.size w.heap.size V (.slice xP l.length yP) l):=fun V hV=>⟨(Rdy.new _ zP zP.size).same hV,(nP.below ((Below.refl _ _).alloc (Nat.le_refl _) _)).same hV.1⟩;
           (try have rR:Hid (∀ V,SameW V wP→Rdy 54 w.heap.size w V w3.heap.size∧NewX true 40 w.heap.size w.heap.size V (.slice xP l.length yP) l):=fun V hV=>⟨(dP _ (e2.out _ ⟨by rfl,by rfl,by rfl,by rfl⟩).1).same hV,nP.same hV.1⟩);
           (try have rR:Hid (∀ V,SameW V wP→Rdy 54 w.heap.size w V (w3.heap.size+1)∧NewX true 40 w.heap.size w.heap.size V (.slice xP l.length yP) l):=fun V hV=>⟨(dP _ (e3.out _ ⟨by rfl,by rfl,by rfl,by rfl⟩).2).same hV,nP.same hV.1⟩);
           (try have FIN:=hid (And.intro (tP _ _ (rP.out _ ⟨by rfl,by rfl,by rfl,by rfl⟩).2) (And.intro nP zP)));
           (try have FIN:=hid (And.intro (tP _ _ (rPa.out _ ⟨by rfl,by rfl,by rfl,by rfl⟩).2) (And.intro nP zP)))))
     all_goals (
      go_wp2
      go_ret3
      exact ⟨0,rs,l,_,_,_,Hs.out,rfl,FIN.out.1,FIN.out.2.1,FIN.out.2.2⟩)
   ·rw [show sameB F G = false by unfold sameB;exact decide_eq_false hFG] at hEq
    have hAb:=hid (fun W (hW:Below w.heap.size w W) a1 a2 c1 c2 q1 q2 q3 q4 q5 q6=>refabove_any rk F G ar a1 a2 cr c1 c2 W (HR.out W hW) q1 q2 q3 q4 q5 q6 eF eG (rank_six Hk1.out))
    have hBa:=hid (fun W (hW:Below w.heap.size w W) a1 a2 c1 c2 q1 q2 q3 q4 q5 q6=>refabove_any rk G F ar a1 a2 cr c1 c2 W (HR.out W hW) q1 q2 q3 q4 q5 q6 eG eF (rank_six Hk1.out))
    have hv1:Hid (Tm.ab rk F G 0 0 = Tm.aboveVal rk F G):=by
     show _ = _
     unfold Tm.aboveVal Tm.ab
     rw [if_pos (Tm.aboveErr_of Hk1.out eF eG),Tm.part_all0 (Tm.err_run eF),Tm.part_all0 (Tm.err_run eG)]
    have hv2:Hid (Tm.ab rk G F 0 0 = Tm.aboveVal rk G F):=by
     show _ = _
     unfold Tm.aboveVal Tm.ab
     rw [if_pos (Tm.aboveErr_of Hk1.out eG eF),Tm.part_all0 (Tm.err_run eG),Tm.part_all0 (Tm.err_run eF)]
    rw [hv1.out] at hAb
    rw [hv2.out] at hBa
    have hdir:Hid (Tm.dir rk F G = if Tm.aboveVal rk F G = true then (Tm.plErr F,Tm.plVal F G) else if Tm.aboveVal rk G F = true then (Tm.plErr G,Tm.plVal G F) else (6,[],[])):=rfl
    have hS3:Hid (∀ er rs' ps',(((Tm.dir rk F G).1≠0∧er = (Tm.dir rk F G).1∧rs' = []∧ps' = [])∨((Tm.dir rk F G).1 = 0∧Tm.WithSays rs l (Tm.dir rk F G).2.1 (Tm.dir rk F G).2.2 er rs' ps'))→Tm.TurnSays rk rs ((P,Q) :: l) er rs' ps'):=fun er rs' ps' h=>hS.out er rs' ps' (h.elim (fun h=>.inr (.inr (.inl ⟨rfl,hFG,h⟩))) (fun h=>.inr (.inr (.inr ⟨rfl,hFG,h⟩))))
    clear hS hv1 hv2 hFG
    cases hab:Tm.aboveVal rk F G with
    | true =>
     rw [hab,if_pos rfl] at hdir
     rw [hab] at hAb
     have hsay:Hid (∀ er rs' ps',Tm.GrowSays rs l F G er rs' ps'→Tm.TurnSays rk rs ((P,Q) :: l) er rs' ps'):=fun er rs' ps' h=>hS3.out er rs' ps' (Tm.dir_grow hdir.out h)
     have Hhab:=hid hab
     clear hS3 hBa hab hdir
     by_cases hcap:cap = 1
     ·subst hcap
      obtain rfl:l = []:=List.eq_nil_of_length_eq_zero (by omega)
      simp only [List.length_nil,Nat.zero_add]
      go_enter Tryz.func36,Tryz.ntmps36
      go_wp2_with fail
      refine hF1.out.mono ?_
      rintro e w1 ⟨v1,rfl,N1,b1⟩
      obtain ⟨aF,cF,rfl,iF,pF,pF'⟩:=New.ints N1
      obtain ⟨x0,x1⟩:=hcell.out w1 b1
      clear hF1
      go_wp2_with fail
      refine (hF2.out w1 b1).mono ?_
      rintro e w2 ⟨v2,rfl,N2,b2⟩
      obtain ⟨aG,cG,rfl,iG,pG,pG'⟩:=New.ints N2
      have B2:=b1.trans (b2.mono b1.size)
      have iF2:=(iF.below b2).mono b2.size
      clear hF2 x0 x1 N1 N2
      go_wp2_with fail
      refine (hEq.out w2 aF aG cF cG iF2 iG).mono ?_
      rintro e w3 ⟨rfl,b3⟩
      have B3:=B2.trans (b3.mono B2.size)
      have iF3:=(iF2.below b3).mono b3.size
      have iG3:=(iG.below b3).mono b3.size
      clear hEq iF2 iG
      have hA1:=hid (hAb.out w3 B3 aF aG cF cG iF3 iG3 pF pF' pG pG')
      clear hAb
      go_wp2_with fail
      refine hA1.out.mono ?_
      rintro e w4 ⟨rfl,b4⟩
      have B4:=B3.trans (b4.mono B3.size)
      have iF4:=(iF3.below b4).mono b4.size
      have iG4:=(iG3.below b4).mono b4.size
      clear hA1 iF3 iG3
      have hG:=hid (refGrow_any rk rs [] F G al (some ⟨b,off,none⟩) aF aG cl 0 cF cG w4 Hk1.out Hk4.out eF eG Hhab.out (by simp) ((HL.out w4 B4).mono B4.size) (fun k hk=>by simp at hk) (fun e=>by cases e) iF4 iG4)
      clear iF4 iG4
      go_wp2_with fail
      refine hG.out.mono ?_
      rintro e w9 ⟨er,rs',ps',v9,u9,hs9,rfl,n9,m9,b9⟩
      obtain ⟨a9,c9,rfl⟩:=n9.slice
      obtain ⟨a10,c10,rfl⟩:=m9.slice
      have Hs:=hid (hsay.out er rs' ps' hs9)
      have B9:=B4.trans (b9.mono B4.size)
      have N9:=hid n9
      have M9:=hid m9
      clear hG hs9 n9 m9
      go_wp2
      go_ret3
      exact ⟨er,rs',ps',_,_,_,Hs.out,rfl,N9.out,M9.out,B9⟩
     ·have r3:¬ cap - 1 = 0:=by omega
      go_enter Tryz.func36,Tryz.ntmps36
      go_wp2_with fail
      refine hF1.out.mono ?_
      rintro e w1 ⟨v1,rfl,N1,b1⟩
      obtain ⟨aF,cF,rfl,iF,pF,pF'⟩:=New.ints N1
      obtain ⟨x0,x1⟩:=hcell.out w1 b1
      clear hF1
      go_wp2_with fail
      refine (hF2.out w1 b1).mono ?_
      rintro e w2 ⟨v2,rfl,N2,b2⟩
      obtain ⟨aG,cG,rfl,iG,pG,pG'⟩:=New.ints N2
      have B2:=b1.trans (b2.mono b1.size)
      have iF2:=(iF.below b2).mono b2.size
      clear hF2 x0 x1 N1 N2
      go_wp2_with fail
      refine (hEq.out w2 aF aG cF cG iF2 iG).mono ?_
      rintro e w3 ⟨rfl,b3⟩
      have B3:=B2.trans (b3.mono B2.size)
      have iF3:=(iF2.below b3).mono b3.size
      have iG3:=(iG.below b3).mono b3.size
      clear hEq iF2 iG
      have hA1:=hid (hAb.out w3 B3 aF aG cF cG iF3 iG3 pF pF' pG pG')
      clear hAb
      go_wp2_with fail
      refine hA1.out.mono ?_
      rintro e w4 ⟨rfl,b4⟩
      have B4:=B3.trans (b4.mono B3.size)
      have iF4:=(iF3.below b4).mono b4.size
      have iG4:=(iG3.below b4).mono b4.size
      clear hA1 iF3 iG3
      have hG:=hid (refGrow_any rk rs l F G al (some ⟨b,off+2,none⟩) aF aG cl (cap - 1) cF cG w4 Hk1.out Hk4.out eF eG Hhab.out (by omega) ((HL.out w4 B4).mono B4.size) ((hTl.out.below B4).mono B4.size) (fun e=>by cases e) iF4 iG4)
      clear iF4 iG4
      go_wp2_with fail
      refine hG.out.mono ?_
      rintro e w9 ⟨er,rs',ps',v9,u9,hs9,rfl,n9,m9,b9⟩
      obtain ⟨a9,c9,rfl⟩:=n9.slice
      obtain ⟨a10,c10,rfl⟩:=m9.slice
      have Hs:=hid (hsay.out er rs' ps' hs9)
      have B9:=B4.trans (b9.mono B4.size)
      have N9:=hid n9
      have M9:=hid m9
      clear hG hs9 n9 m9
      go_wp2
      go_ret3
      exact ⟨er,rs',ps',_,_,_,Hs.out,rfl,N9.out,M9.out,B9⟩
    | false =>
     rw [hab,if_neg (by decide)] at hdir
     rw [hab] at hAb
     clear hab
     cases hba:Tm.aboveVal rk G F with
     | true =>
      rw [hba,if_pos rfl] at hdir
      rw [hba] at hBa
      have hsay:Hid (∀ er rs' ps',Tm.GrowSays rs l G F er rs' ps'→Tm.TurnSays rk rs ((P,Q) :: l) er rs' ps'):=fun er rs' ps' h=>hS3.out er rs' ps' (Tm.dir_grow hdir.out h)
      have Hhba:=hid hba
      clear hS3 hba hdir
      by_cases hcap:cap = 1
      ·subst hcap
       obtain rfl:l = []:=List.eq_nil_of_length_eq_zero (by omega)
       simp only [List.length_nil,Nat.zero_add]
       go_enter Tryz.func36,Tryz.ntmps36
       go_wp2_with fail
       refine hF1.out.mono ?_
       rintro e w1 ⟨v1,rfl,N1,b1⟩
       obtain ⟨aF,cF,rfl,iF,pF,pF'⟩:=New.ints N1
       obtain ⟨x0,x1⟩:=hcell.out w1 b1
       clear hF1
       go_wp2_with fail
       refine (hF2.out w1 b1).mono ?_
       rintro e w2 ⟨v2,rfl,N2,b2⟩
       obtain ⟨aG,cG,rfl,iG,pG,pG'⟩:=New.ints N2
       have B2:=b1.trans (b2.mono b1.size)
       have iF2:=(iF.below b2).mono b2.size
       clear hF2 x0 x1 N1 N2
       go_wp2_with fail
       refine (hEq.out w2 aF aG cF cG iF2 iG).mono ?_
       rintro e w3 ⟨rfl,b3⟩
       have B3:=B2.trans (b3.mono B2.size)
       have iF3:=(iF2.below b3).mono b3.size
       have iG3:=(iG.below b3).mono b3.size
       clear hEq iF2 iG
       have hA1:=hid (hAb.out w3 B3 aF aG cF cG iF3 iG3 pF pF' pG pG')
       clear hAb
       go_wp2_with fail
       refine hA1.out.mono ?_
       rintro e w4 ⟨rfl,b4⟩
       have B4:=B3.trans (b4.mono B3.size)
       have iF4:=(iF3.below b4).mono b4.size
       have iG4:=(iG3.below b4).mono b4.size
       clear hA1 iF3 iG3
       have hA2:=hid (hBa.out w4 B4 aG aF cG cF iG4 iF4 pG pG' pF pF')
       clear hBa
       go_wp2_with fail
       refine hA2.out.mono ?_
       rintro e w5 ⟨rfl,b5⟩
       have B5:=B4.trans (b5.mono B4.size)
       have iF5:=(iF4.below b5).mono b5.size
       have iG5:=(iG4.below b5).mono b5.size
       clear hA2 iF4 iG4
       have hG:=hid (refGrow_any rk rs [] G F al (some ⟨b,off,none⟩) aG aF cl 0 cG cF w5 Hk1.out Hk4.out eG eF Hhba.out (by simp) ((HL.out w5 B5).mono B5.size) (fun k hk=>by simp at hk) (fun e=>by cases e) iG5 iF5)
       clear iG5 iF5
       go_wp2_with fail
       refine hG.out.mono ?_
       rintro e w9 ⟨er,rs',ps',v9,u9,hs9,rfl,n9,m9,b9⟩
       obtain ⟨a9,c9,rfl⟩:=n9.slice
       obtain ⟨a10,c10,rfl⟩:=m9.slice
       have Hs:=hid (hsay.out er rs' ps' hs9)
       have B9:=B5.trans (b9.mono B5.size)
       have N9:=hid n9
       have M9:=hid m9
       clear hG hs9 n9 m9
       go_wp2
       go_ret3
       exact ⟨er,rs',ps',_,_,_,Hs.out,rfl,N9.out,M9.out,B9⟩
      ·have r3:¬ cap - 1 = 0:=by omega
       go_enter Tryz.func36,Tryz.ntmps36
       go_wp2_with fail
       refine hF1.out.mono ?_
       rintro e w1 ⟨v1,rfl,N1,b1⟩
       obtain ⟨aF,cF,rfl,iF,pF,pF'⟩:=New.ints N1
       obtain ⟨x0,x1⟩:=hcell.out w1 b1
       clear hF1
       go_wp2_with fail
       refine (hF2.out w1 b1).mono ?_
       rintro e w2 ⟨v2,rfl,N2,b2⟩
       obtain ⟨aG,cG,rfl,iG,pG,pG'⟩:=New.ints N2
       have B2:=b1.trans (b2.mono b1.size)
       have iF2:=(iF.below b2).mono b2.size
       clear hF2 x0 x1 N1 N2
       go_wp2_with fail
       refine (hEq.out w2 aF aG cF cG iF2 iG).mono ?_
       rintro e w3 ⟨rfl,b3⟩
       have B3:=B2.trans (b3.mono B2.size)
       have iF3:=(iF2.below b3).mono b3.size
       have iG3:=(iG.below b3).mono b3.size
       clear hEq iF2 iG
       have hA1:=hid (hAb.out w3 B3 aF aG cF cG iF3 iG3 pF pF' pG pG')
       clear hAb
       go_wp2_with fail
       refine hA1.out.mono ?_
       rintro e w4 ⟨rfl,b4⟩
       have B4:=B3.trans (b4.mono B3.size)
       have iF4:=(iF3.below b4).mono b4.size
       have iG4:=(iG3.below b4).mono b4.size
       clear hA1 iF3 iG3
       have hA2:=hid (hBa.out w4 B4 aG aF cG cF iG4 iF4 pG pG' pF pF')
       clear hBa
       go_wp2_with fail
       refine hA2.out.mono ?_
       rintro e w5 ⟨rfl,b5⟩
       have B5:=B4.trans (b5.mono B4.size)
       have iF5:=(iF4.below b5).mono b5.size
       have iG5:=(iG4.below b5).mono b5.size
       clear hA2 iF4 iG4
       have hG:=hid (refGrow_any rk rs l G F al (some ⟨b,off+2,none⟩) aG aF cl (cap - 1) cG cF w5 Hk1.out Hk4.out eG eF Hhba.out (by omega) ((HL.out w5 B5).mono B5.size) ((hTl.out.below B5).mono B5.size) (fun e=>by cases e) iG5 iF5)
       clear iG5 iF5
       go_wp2_with fail
       refine hG.out.mono ?_
       rintro e w9 ⟨er,rs',ps',v9,u9,hs9,rfl,n9,m9,b9⟩
       obtain ⟨a9,c9,rfl⟩:=n9.slice
       obtain ⟨a10,c10,rfl⟩:=m9.slice
       have Hs:=hid (hsay.out er rs' ps' hs9)
       have B9:=B5.trans (b9.mono B5.size)
       have N9:=hid n9
       have M9:=hid m9
       clear hG hs9 n9 m9
       go_wp2
       go_ret3
       exact ⟨er,rs',ps',_,_,_,Hs.out,rfl,N9.out,M9.out,B9⟩
     | false =>
      rw [hba,if_neg (by decide)] at hdir
      rw [hba] at hBa
      have Hs:=hid (hS3.out 6 [] [] (.inl ⟨by rw [hdir.out];decide,by rw [hdir.out],rfl,rfl⟩))
      clear hS3 hba hdir
      go_enter Tryz.func36,Tryz.ntmps36
      go_wp2_with fail
      refine hF1.out.mono ?_
      rintro e w1 ⟨v1,rfl,N1,b1⟩
      obtain ⟨aF,cF,rfl,iF,pF,pF'⟩:=New.ints N1
      obtain ⟨x0,x1⟩:=hcell.out w1 b1
      clear hF1
      go_wp2_with fail
      refine (hF2.out w1 b1).mono ?_
      rintro e w2 ⟨v2,rfl,N2,b2⟩
      obtain ⟨aG,cG,rfl,iG,pG,pG'⟩:=New.ints N2
      have B2:=b1.trans (b2.mono b1.size)
      have iF2:=(iF.below b2).mono b2.size
      clear hF2 x0 x1 N1 N2
      go_wp2_with fail
      refine (hEq.out w2 aF aG cF cG iF2 iG).mono ?_
      rintro e w3 ⟨rfl,b3⟩
      have B3:=B2.trans (b3.mono B2.size)
      have iF3:=(iF2.below b3).mono b3.size
      have iG3:=(iG.below b3).mono b3.size
      clear hEq iF2 iG
      have hA1:=hid (hAb.out w3 B3 aF aG cF cG iF3 iG3 pF pF' pG pG')
      clear hAb
      go_wp2_with fail
      refine hA1.out.mono ?_
      rintro e w4 ⟨rfl,b4⟩
      have B4:=B3.trans (b4.mono B3.size)
      have iF4:=(iF3.below b4).mono b4.size
      have iG4:=(iG3.below b4).mono b4.size
      clear hA1 iF3 iG3
      have hA2:=hid (hBa.out w4 B4 aG aF cG cF iG4 iF4 pG pG' pF pF')
      clear hBa
      go_wp2_with fail
      refine hA2.out.mono ?_
      rintro e w5 ⟨rfl,b5⟩
      have B5:=B4.trans (b5.mono B4.size)
      have iF5:=(iF4.below b5).mono b5.size
      have iG5:=(iG4.below b5).mono b5.size
      clear hA2 iF4 iG4
      go_wp2
      go_ret3
      exact ⟨6,[],[],_,_,0,Hs.out,rfl,NewX.nil _ _ _ _,NewX.nil _ _ _ _,B5⟩
  ·have hne:((Tm.form rs Q).2.2 != 0) = true:=by simpa using f2
   have Hs:=hid (hS.out (Tm.form rs Q).2.2 [] [] (.inl ⟨by rw [hje.out];exact f2,hje.out.symm,rfl,rfl⟩))
   clear hS hje f1 f2 eF
   generalize (Tm.form rs P).1 = F at *
   generalize (Tm.form rs P).2.1 = n1 at *
   generalize Tm.form rs Q = fq at *
   go_enter Tryz.func36,Tryz.ntmps36
   go_wp2_with fail
   refine hF1.out.mono ?_
   rintro e w1 ⟨v1,rfl,N1,b1⟩
   obtain ⟨aF,cF,rfl,iF,pF,pF'⟩:=New.ints N1
   obtain ⟨x0,x1⟩:=hcell.out w1 b1
   clear hF1
   go_wp2_with fail
   refine (hF2.out w1 b1).mono ?_
   rintro e w2 ⟨v2,rfl,N2,b2⟩
   obtain ⟨aG,cG,rfl,_⟩:=New.ints N2
   go_wp2
   go_ret3
   exact ⟨_,[],[],_,_,0,Hs.out,rfl,NewX.nil _ _ _ _,NewX.nil _ _ _ _,b1.trans (b2.mono b1.size)⟩
 ·rw [if_neg f1] at hje
  have hne:((Tm.form rs P).2.2 != 0) = true:=by simpa using f1
  have Hs:=hid (hS.out (Tm.form rs P).2.2 [] [] (.inl ⟨by rw [hje.out];exact f1,hje.out.symm,rfl,rfl⟩))
  clear hS hje f1 hF2
  generalize Tm.form rs P = fp at *
  go_enter Tryz.func36,Tryz.ntmps36
  go_wp2_with fail
  refine hF1.out.mono ?_
  rintro e w1 ⟨v1,rfl,N1,b1⟩
  obtain ⟨aF,cF,rfl,_⟩:=New.ints N1
  go_wp2
  go_ret3
  exact ⟨_,[],[],_,_,0,Hs.out,rfl,NewX.nil _ _ _ _,NewX.nil _ _ _ _,b1⟩
end Go.Proofs.YtglohanbpjaieaaGreat
namespace Go.Proofs.YtglohanbpjaieaaGreat
open Go.Proofs Go.RowKit Go.Shelf
def Tm.OfOne:Prop:=∀ (rs:RuleL) (i j er er':Int) (ps ps':PairL),Tm.OfSays rs i j er ps→Tm.OfSays rs i j er' ps'→er = er'∧ps = ps'
theorem Tm.LastSays.one (H:Tm.OfOne) {rs:RuleL} {ws:List (Nat × Nat)} {e e':Int} {ps ps':PairL} (h:Tm.LastSays rs ws e ps) (h':Tm.LastSays rs ws e' ps'):e = e'∧ps = ps':=by
 rcases h with ⟨rfl,f,h1,rfl⟩ | ⟨he,rfl,k,qs,hk,⟨l,f,h1,_⟩,hs⟩ <;> rcases h' with ⟨rfl,g,g1,rfl⟩ | ⟨ge,rfl,m,qs',hm,⟨l',g,g1,_⟩,gs⟩
 ·refine ⟨rfl,?_⟩
  congr 1
  refine List.map_congr_left fun j hj=>?_
  rw [List.mem_range] at hj
  exact (H _ _ _ _ _ _ _ (h1 j hj) (g1 j hj)).2
 ·exact absurd (H _ _ _ _ _ _ _ gs (h1 m hm)).1 ge
 ·exact absurd (H _ _ _ _ _ _ _ hs (g1 k hk)).1 he
 ·rcases Nat.lt_trichotomy k m with hlt | rfl | hlt
  ·exact absurd (H _ _ _ _ _ _ _ hs (g1 k hlt)).1 he
  ·exact ⟨(H _ _ _ _ _ _ _ hs gs).1,rfl⟩
  ·exact absurd (H _ _ _ _ _ _ _ gs (h1 m hlt)).1 ge
theorem Tm.WithSays.one (H:Tm.OfOne) {rs:RuleL} {ps:PairL} {L R:List Int} {er er':Int} {rs1 rs2:RuleL} {ps1 ps2:PairL} (h:Tm.WithSays rs ps L R er rs1 ps1) (h':Tm.WithSays rs ps L R er' rs2 ps2):er = er'∧rs1 = rs2∧ps1 = ps2:=by
 rcases h with ⟨h1,rfl,rfl,rfl⟩ | ⟨h1,e,q,hs,h⟩ <;> rcases h' with ⟨g1,rfl,rfl,rfl⟩ | ⟨g1,e',q',gs,g⟩
 ·exact ⟨rfl,rfl,rfl⟩
 ·omega
 ·omega
 ·obtain ⟨rfl,rfl⟩:=Tm.LastSays.one H hs gs
  rcases h with ⟨h2,rfl,rfl,rfl⟩ | ⟨h2,h3,rfl,rfl,rfl⟩ | ⟨h2,h3,rfl,rfl,rfl⟩ <;> rcases g with ⟨g2,rfl,rfl,rfl⟩ | ⟨g2,g3,rfl,rfl,rfl⟩ | ⟨g2,g3,rfl,rfl,rfl⟩
  ·exact ⟨rfl,rfl,rfl⟩
  ·exact absurd g2 h2
  ·exact absurd g2 h2
  ·exact absurd h2 g2
  ·exact ⟨rfl,rfl,rfl⟩
  ·omega
  ·exact absurd h2 g2
  ·omega
  ·exact ⟨rfl,rfl,rfl⟩
theorem Tm.TurnSays.one (H:Tm.OfOne) {rk:List Int} {rs:RuleL} {ps:PairL} {er er':Int} {rs1 rs2:RuleL} {ps1 ps2:PairL} (h:Tm.TurnSays rk rs ps er rs1 ps1) (h':Tm.TurnSays rk rs ps er' rs2 ps2):er = er'∧rs1 = rs2∧ps1 = ps2:=by
 rcases h with ⟨h0,rfl,rfl,rfl⟩ | ⟨h0,p,l,rfl,h⟩ <;> rcases h' with ⟨g0,rfl,rfl,rfl⟩ | ⟨g0,p',l',e,g⟩
 ·exact ⟨rfl,rfl,rfl⟩
 ·exact absurd g0 h0
 ·exact absurd h0 g0
 ·cases e
  rcases h with ⟨h1,rfl,rfl,rfl⟩ | ⟨h1,h2,rfl,rfl,rfl⟩ | ⟨h1,h2,h3,rfl,rfl,rfl⟩ | ⟨h1,h2,h3,h4⟩ <;> rcases g with ⟨g1,rfl,rfl,rfl⟩ | ⟨g1,g2,rfl,rfl,rfl⟩ | ⟨g1,g2,g3,rfl,rfl,rfl⟩ | ⟨g1,g2,g3,g4⟩
  ·exact ⟨rfl,rfl,rfl⟩
  ·exact absurd g1 h1
  ·exact absurd g1 h1
  ·exact absurd g1 h1
  ·exact absurd h1 g1
  ·exact ⟨rfl,rfl,rfl⟩
  ·exact absurd h2 g2
  ·exact absurd h2 g2
  ·exact absurd h1 g1
  ·exact absurd g2 h2
  ·exact ⟨rfl,rfl,rfl⟩
  ·exact absurd g3 h3
  ·exact absurd h1 g1
  ·exact absurd g2 h2
  ·exact absurd h3 g3
  ·exact Tm.WithSays.one H h4 g4
end Go.Proofs.YtglohanbpjaieaaGreat
namespace Go.Proofs.YtglohanbpjaieaaGreat
open Go.Proofs Go.RowKit Go.Shelf Go.Maps
attribute [local go_sem ↓] Go.wp_at_zero Go.wp_at_succ
set_option maxRecDepth 100000 in
set_option maxHeartbeats 2000000 in
theorem refFalls_any (rk:List Int) (rs:RuleL) (ar a:Option Addr) (cr cap:Nat) (w:World) (hR:Ints w.heap.size w ar rk) (hI:RulesAt w.heap.size w a rs) (h1:Tm.rankErr rk = 0) (h2:Tm.rulesErr rs = 0) :
 Calls Tryz.prog 63 #[.slice ar rk.length cr,.slice a rs.length cap] w fun e w'=>e = .returned (.bool (Tm.fallsB rk rs))∧Below w.heap.size w w':=by
 obtain ⟨h8,hall⟩:=Tm.rulesErr_ok h2
 have h8':(rs.length:Int)≤8:=by omega
 have h6:=rank_six h1
 have HA:=hid (fun W (hW:Below w.heap.size w W) k (hk:k < rs.length) aL aR cL cR hL hR2 h3 h4 h5 h6'=>refabove_any rk (rs[k]?.getD ([],[])).1 (rs[k]?.getD ([],[])).2 ar aL aR cr cL cR W ((hR.below hW).mono hW.size) hL hR2 h3 h4 h5 h6' (Tm.ruleErr_ok (hall k hk)).1 (Tm.ruleErr_ok (hall k hk)).2.1 h6)
 have HV:=hid (fun k (hk:k < rs.length)=>show Tm.ab rk (rs[k]?.getD ([],[])).1 (rs[k]?.getD ([],[])).2 0 0 = Tm.aboveVal rk (rs[k]?.getD ([],[])).1 (rs[k]?.getD ([],[])).2 by
  have e1:=(Tm.ruleErr_ok (hall k hk)).1
  have e2:=(Tm.ruleErr_ok (hall k hk)).2.1
  unfold Tm.aboveVal Tm.ab
  rw [if_pos (Tm.aboveErr_of h1 e1 e2),Tm.part_all0 (Tm.err_run e1),Tm.part_all0 (Tm.err_run e2)])
 clear h1 h2 h6 hall h8 hR
 go_enter Tryz.func63,Tryz.ntmps63
 go_wp2
 go_loopw [5] (fun v wr=>∃ k:Nat,k≤rs.length∧v = .int .i64 (k:Int)∧Hid (Tm.fallsB rk (rs.take k) = true)∧Below w.heap.size w wr) (fun v _=>rs.length - (intOf v).toNat)
 case atStart=>exact ⟨0,Nat.zero_le _,rfl,hid rfl,Below.refl _ _⟩
 case round =>
  obtain ⟨k,hk,rfl,hst,hB⟩:=hrel
  by_cases hlt:k < rs.length
  ·have hlt':(k:Int) < (rs.length:Int):=by omega
   obtain ⟨b,off,rfl,hb,aL,cL,aR,cR,g1,g2,g3,g4,g5,g6,g7,g8⟩:=(hI.below hB) k hlt
   have hbw:b < wr.heap.size:=Nat.lt_of_lt_of_le hb hB.size
   have hs1:=hid (fallsB_snoc hlt hst.out)
   have hs2:=hid (fun h=>fallsB_no (rk:=rk) hlt h)
   have hC:=hid (fun W (hW:Below wr.heap.size wr W)=>HA.out W (hB.trans (hW.mono hB.size)) k hlt aL aR cL cR (((g3.mono hB.size).below hW).mono hW.size) (((g4.mono hB.size).below hW).mono hW.size) g5 g6 g7 g8)
   rw [HV.out k hlt] at hC
   generalize (rs[k]?.getD ([],[])).1 = L at *
   generalize (rs[k]?.getD ([],[])).2 = R at *
   have hS:=hid (fun w' (hW:Below wr.heap.size wr w')=>(show w'.cell? ⟨b,off+k * 2,none⟩ = some (.slice aL L.length cL)∧w'.cell? ⟨b,off+k * 2+1,none⟩ = some (.slice aR R.length cR) from
    ⟨(hW.cell (p:=⟨b,off+k * 2,none⟩) hbw).trans g1,(hW.cell (p:=⟨b,off+k * 2+1,none⟩) hbw).trans g2⟩))
   clear g3 g4 g5 g6 g7 g8
   cases hq:Tm.aboveVal rk L R with
   | true =>
    rw [hq] at hC hs1
    clear hq hs2
    go_wp2_with fail
    go_region_held3 (fun w'=>w'.cell? ⟨b,off+k * 2,none⟩ = some (.slice aL L.length cL)∧w'.cell? ⟨b,off+k * 2+1,none⟩ = some (.slice aR R.length cR)) (first | assumption | exact ⟨g1,g2⟩) (first
     | (go_at_call 64;refine (hC.out _ (below_drew1 (Below.refl _ wr))).mono ?_;clear hC;rintro e w2 ⟨rfl,b2⟩;have b3:Below wr.heap.size wr w2:=⟨b2.os,b2.tape,b2.output,b2.size,b2.block⟩;have hS2:=hS.out w2 b3))
    all_goals (
     go_wp2
     go_roundw
     case rel=>exact ⟨k+1,by omega,by go_num,hid hs1.out,hB.trans (b3.mono hB.size)⟩
     case measure=>simp [intOf];omega)
   | false =>
    have hno:=hid (hs2.out hq)
    rw [hq] at hC
    clear hq hs1 hs2
    go_wp2_with fail
    go_region_held3 (fun w'=>w'.cell? ⟨b,off+k * 2,none⟩ = some (.slice aL L.length cL)∧w'.cell? ⟨b,off+k * 2+1,none⟩ = some (.slice aR R.length cR)) (first | assumption | exact ⟨g1,g2⟩) (first
     | (go_at_call 64;refine (hC.out _ (below_drew1 (Below.refl _ wr))).mono ?_;clear hC;rintro e w2 ⟨rfl,b2⟩;have b3:Below wr.heap.size wr w2:=⟨b2.os,b2.tape,b2.output,b2.size,b2.block⟩;have hS2:=hS.out w2 b3))
    all_goals (
     go_wp2
     go_ret
     exact ⟨by rw [hno.out];rfl,hB.trans (b3.mono hB.size)⟩)
  ·obtain rfl:k = rs.length:=by omega
   rw [List.take_length] at hst
   go_wp2
   go_ret
   exact ⟨by rw [hst.out];rfl,hB⟩
set_option maxRecDepth 100000 in
set_option maxHeartbeats 1000000 in
theorem fallsOf_any (rk:List Int) (rs:RuleL) (ar a:Option Addr) (cr cap:Nat) (w:World) (hR:Ints w.heap.size w ar rk) (hI:RulesAt w.heap.size w a rs) :
 Calls Tryz.prog 35 #[.slice ar rk.length cr,.slice a rs.length cap] w fun e w'=>e = .returned (.tuple #[.bool (Tm.fallsVal rk rs),.int .i64 (Tm.fallsErr rk rs)])∧Below w.heap.size w w':=by
 have C1:=rankError_any rk ar cr w hR
 have C2:=rulesError_any rs a cap w hI
 by_cases h1:Tm.rankErr rk = 0
 ·rw [h1] at C1
  have he:Tm.fallsErr rk rs = Tm.rulesErr rs:=by unfold Tm.fallsErr;rw [if_pos h1]
  by_cases h2:Tm.rulesErr rs = 0
  ·have C3:=hid (fun W (hW:Below w.heap.size w W)=>refFalls_any rk rs ar a cr cap W ((hR.below hW).mono hW.size) ((hI.below hW).mono hW.size) h1 h2)
   rw [h2] at C2
   have hv:Tm.fallsVal rk rs = Tm.fallsB rk rs:=by unfold Tm.fallsVal;rw [he,if_pos h2]
   rw [hv,he,h2]
   clear h1 h2 he hv hR hI
   generalize Tm.fallsB rk rs = q at *
   go_enter Tryz.func35,Tryz.ntmps35
   go_wp2_with fail
   refine C1.mono ?_
   rintro e w ⟨rfl,rfl⟩
   go_wp2_with fail
   refine C2.mono ?_
   rintro e w1 ⟨rfl,b1⟩
   go_wp2_with fail
   refine (C3.out w1 b1).mono ?_
   rintro e w2 ⟨rfl,b2⟩
   go_wp2
   go_ret2
   exact ⟨rfl,b1.trans (b2.mono b1.size)⟩
  ·have hv:Tm.fallsVal rk rs = false:=by unfold Tm.fallsVal;rw [he,if_neg h2]
   have hn:(Tm.rulesErr rs != 0) = true:=by simpa using h2
   rw [hv,he]
   clear h1 h2 he hv hR hI
   generalize Tm.rulesErr rs = q at *
   go_enter Tryz.func35,Tryz.ntmps35
   go_wp2_with fail
   refine C1.mono ?_
   rintro e w ⟨rfl,rfl⟩
   go_wp2_with fail
   refine C2.mono ?_
   rintro e w1 ⟨rfl,b1⟩
   go_wp2
   go_ret2
   exact ⟨rfl,b1⟩
 ·have he:Tm.fallsErr rk rs = Tm.rankErr rk:=by unfold Tm.fallsErr;rw [if_neg h1]
  have hv:Tm.fallsVal rk rs = false:=by unfold Tm.fallsVal;rw [he,if_neg h1]
  have hn:(Tm.rankErr rk != 0) = true:=by simpa using h1
  rw [hv,he]
  clear h1 he hv hR hI C2
  generalize Tm.rankErr rk = q at *
  go_enter Tryz.func35,Tryz.ntmps35
  go_wp2_with fail
  refine C1.mono ?_
  rintro e w ⟨rfl,rfl⟩
  go_wp2
  go_ret2
  exact ⟨rfl,Below.refl _ _⟩
end Go.Proofs.YtglohanbpjaieaaGreat
namespace Go.Proofs.YtglohanbpjaieaaGreat
open Go.Proofs Go.RowKit Go.Shelf Go.Maps
set_option maxRecDepth 100000 in
set_option maxHeartbeats 4000000 in
theorem refTurnOf_any (rk:List Int) (rs:RuleL) (ps:PairL) (ar al a:Option Addr) (cr cl cap:Nat) (w:World) (hR:Ints w.heap.size w ar rk) (hL:RulesAt w.heap.size w al rs) (hP:RulesAt w.heap.size w a ps) (hzl:al = none→cl = 0) (hc1:ps.length≤cap) (hc2:cap≤maxLen) :
 Calls Tryz.prog 7 #[.slice ar rk.length cr,.slice al rs.length cl,.slice a ps.length cap] w fun e w'=>∃ er rs' ps' v u m,Tm.TurnSays rk rs ps er rs' ps'∧e = .returned (.tuple #[v,u,.int .i64 er])∧NewX true 54 m m w' v rs'∧NewX true 40 m m w' u ps'∧Below w.heap.size w w':=by
 have hm:(ps.length:Int)≤9223372036854775807:=by unfold maxLen at hc2;omega
 have C1:=hid (rankError_any rk ar cr w hR)
 have C2:=hid (eqsError_any ps a cap w hP)
 have C3:=hid (fun W (hW:Below w.heap.size w W)=>fallsOf_any rk rs ar al cr cl W ((hR.below hW).mono hW.size) ((hL.below hW).mono hW.size))
 have hE:Hid (Tm.turnErr rk rs ps = if Tm.bothErr rk ps = 0 then (if Tm.fallsErr rk rs = 0 then (if Tm.fallsVal rk rs = true then (if ps.length = 0 then 5 else 0) else 6) else Tm.fallsErr rk rs) else Tm.bothErr rk ps):=rfl
 have hbE:Hid (Tm.bothErr rk ps = if Tm.rankErr rk = 0 then Tm.eqsErr ps else Tm.rankErr rk):=rfl
 have hbad:Hid (Tm.turnErr rk rs ps≠0→Tm.TurnSays rk rs ps (Tm.turnErr rk rs ps) [] []):=fun h=>.inl ⟨h,rfl,rfl,rfl⟩
 by_cases e1:Tm.rankErr rk = 0
 ·rw [e1] at C1
  rw [if_pos e1] at hbE
  by_cases e2:Tm.eqsErr ps = 0
  ·rw [e2] at C2
   rw [hbE.out,if_pos e2] at hE
   by_cases e3:Tm.fallsErr rk rs = 0
   ·rw [if_pos e3] at hE
    rw [e3] at C3
    cases e4:Tm.fallsVal rk rs with
    | true =>
     rw [e4,if_pos rfl] at hE
     rw [e4] at C3
     cases ps with
     | nil =>
      rw [if_pos (by simp)] at hE
      have hs:=hid (hbad.out (by rw [hE.out];decide))
      rw [hE.out] at hs
      simp only [List.length_nil] at C2 ⊢
      clear hbad hE hbE e1 e2 e3 e4 hR hL hP
      go_enter Tryz.func7,Tryz.ntmps7
      go_wp2_with fail
      refine C1.out.mono ?_
      rintro e w ⟨rfl,rfl⟩
      go_wp2_with fail
      refine C2.out.mono ?_
      rintro e w1 ⟨rfl,b1⟩
      go_wp2_with fail
      refine (C3.out w1 b1).mono ?_
      rintro e w2 ⟨rfl,b2⟩
      go_wp2
      go_ret3
      exact ⟨5,[],[],_,_,0,hs.out,rfl,NewX.nil _ _ _ _,NewX.nil _ _ _ _,b1.trans (b2.mono b1.size)⟩
     | cons p l =>
      rw [if_neg (by simp)] at hE
      have hT:=hid (fun W (hW:Below w.heap.size w W)=>refTurn_any rk rs p l ar al a cr cl cap W ((hR.below hW).mono hW.size) ((hL.below hW).mono hW.size) ((hP.below hW).mono hW.size) hzl hc1 hc2 hE.out)
      have hlen:(p :: l).length = l.length+1:=rfl
      have hq:((l.length:Int)+1 == 0) = false:=by rw [beq_eq_false_iff_ne];omega
      rw [hlen] at C2 hm ⊢
      have hm':(l.length:Int)+1≤9223372036854775807:=by omega
      clear hbad hE hbE e1 e2 e3 e4 hR hL hP hlen hm
      go_enter Tryz.func7,Tryz.ntmps7
      go_wp2_with fail
      refine C1.out.mono ?_
      rintro e w ⟨rfl,rfl⟩
      go_wp2_with fail
      refine C2.out.mono ?_
      rintro e w1 ⟨rfl,b1⟩
      go_wp2_with fail
      refine (C3.out w1 b1).mono ?_
      rintro e w2 ⟨rfl,b2⟩
      have B2:=b1.trans (b2.mono b1.size)
      clear C1 C2 C3
      go_wp2_with fail
      refine (hT.out w2 B2).mono ?_
      rintro e w3 ⟨er,rs',ps',v,u,m,hs,rfl,n3,m3,b3⟩
      obtain ⟨a9,c9,rfl⟩:=n3.slice
      obtain ⟨a10,c10,rfl⟩:=m3.slice
      have Hs:=hid hs
      have N3:=hid n3
      have M3:=hid m3
      clear hT hs n3 m3
      go_wp2
      go_ret3
      exact ⟨er,rs',ps',_,_,m,Hs.out,rfl,N3.out,M3.out,B2.trans (b3.mono B2.size)⟩
    | false =>
     rw [e4,if_neg (by decide)] at hE
     rw [e4] at C3
     have hs:=hid (hbad.out (by rw [hE.out];decide))
     rw [hE.out] at hs
     clear hbad hE hbE e1 e2 e3 e4 hR hL hP
     go_enter Tryz.func7,Tryz.ntmps7
     go_wp2_with fail
     refine C1.out.mono ?_
     rintro e w ⟨rfl,rfl⟩
     go_wp2_with fail
     refine C2.out.mono ?_
     rintro e w1 ⟨rfl,b1⟩
     go_wp2_with fail
     refine (C3.out w1 b1).mono ?_
     rintro e w2 ⟨rfl,b2⟩
     go_wp2
     go_ret3
     exact ⟨6,[],[],_,_,0,hs.out,rfl,NewX.nil _ _ _ _,NewX.nil _ _ _ _,b1.trans (b2.mono b1.size)⟩
   ·rw [if_neg e3] at hE
    have hne:(Tm.fallsErr rk rs != 0) = true:=by simpa using e3
    have hs:=hid (hbad.out (by rw [hE.out];exact e3))
    rw [hE.out] at hs
    clear hbad hE hbE e1 e2 e3 hR hL hP
    generalize Tm.fallsErr rk rs = q at *
    generalize Tm.fallsVal rk rs = fv at *
    go_enter Tryz.func7,Tryz.ntmps7
    go_wp2_with fail
    refine C1.out.mono ?_
    rintro e w ⟨rfl,rfl⟩
    go_wp2_with fail
    refine C2.out.mono ?_
    rintro e w1 ⟨rfl,b1⟩
    go_wp2_with fail
    refine (C3.out w1 b1).mono ?_
    rintro e w2 ⟨rfl,b2⟩
    go_wp2
    go_ret3
    exact ⟨q,[],[],_,_,0,hs.out,rfl,NewX.nil _ _ _ _,NewX.nil _ _ _ _,b1.trans (b2.mono b1.size)⟩
  ·rw [hbE.out,if_neg e2] at hE
   have hne:(Tm.eqsErr ps != 0) = true:=by simpa using e2
   have hs:=hid (hbad.out (by rw [hE.out];exact e2))
   rw [hE.out] at hs
   clear hbad hE hbE e1 e2 hR hL hP C3
   generalize Tm.eqsErr ps = q at *
   go_enter Tryz.func7,Tryz.ntmps7
   go_wp2_with fail
   refine C1.out.mono ?_
   rintro e w ⟨rfl,rfl⟩
   go_wp2_with fail
   refine C2.out.mono ?_
   rintro e w1 ⟨rfl,b1⟩
   go_wp2
   go_ret3
   exact ⟨q,[],[],_,_,0,hs.out,rfl,NewX.nil _ _ _ _,NewX.nil _ _ _ _,b1⟩
 ·rw [if_neg e1] at hbE
  rw [hbE.out,if_neg e1] at hE
  have hne:(Tm.rankErr rk != 0) = true:=by simpa using e1
  have hs:=hid (hbad.out (by rw [hE.out];exact e1))
  rw [hE.out] at hs
  clear hbad hE hbE e1 hR hL hP C2 C3
  generalize Tm.rankErr rk = q at *
  go_enter Tryz.func7,Tryz.ntmps7
  go_wp2_with fail
  refine C1.out.mono ?_
  rintro e w ⟨rfl,rfl⟩
  go_wp2
  go_ret3
  exact ⟨q,[],[],_,_,0,hs.out,rfl,NewX.nil _ _ _ _,NewX.nil _ _ _ _,Below.refl _ _⟩
theorem Tm.Laps.short {L1 R1 L2 R2:List Int} {pass:Nat→Bool} {m:Nat} {l:PairL} (h:Tm.Laps L1 R1 L2 R2 pass m l):∀ x∈l,x.1.length≤1000∧x.2.length≤1000:=by
 induction h with
 | zero=>intro x hx;cases hx
 | pass _ _ ih=>exact ih
 | no _ _ _ ih=>exact ih
 | @yes m l val _ _ _ he ih =>
  intro x hx
  rcases List.mem_append.1 hx with hx | hx
  ·exact ih x hx
  ·simp only [List.mem_cons,List.not_mem_nil,or_false] at hx
   subst hx
   have he':=he
   unfold Tm.prtErr at he'
   by_cases h1:Tm.putErr L1 (m:Int) R2 = 0
   ·rw [if_pos h1] at he'
    by_cases h2:Tm.applyErr val (Tm.putVal L1 (m:Int) R2) = 0
    ·rw [if_pos h2] at he'
     have l1:=Tm.err_len (Tm.applyVal_err h2)
     have l2:=Tm.err_len (Tm.applyVal_err he')
     have hb:=congrArg List.length (Sn.both (Tm.applyVal val (Tm.putVal L1 (m:Int) R2)) (Tm.applyVal val R1))
     rw [List.length_append,Tm.plainTo_length,List.length_append] at hb
     unfold Tm.prtVal
     rw [if_pos he]
     exact ⟨by show (Tm.plain _).length≤_;omega,by show (Tm.plain2 _ _).length≤_;omega⟩
    ·rw [if_neg h2] at he';exact absurd he' h2
   ·rw [if_neg h1] at he';exact absurd he' h1
theorem Tm.OfSays.short {rs:RuleL} {i j er:Int} {ps:PairL} (h:Tm.OfSays rs i j er ps):∀ x∈ps,x.1.length≤1000∧x.2.length≤1000:=by
 rcases h with ⟨_,_,rfl⟩ | ⟨_,_,_,rfl⟩ | ⟨_,a,b,_,_,_,_,⟨_,h⟩ | ⟨_,rfl⟩⟩
 ·intro x hx;cases hx
 ·intro x hx;cases hx
 ·exact h.short
 ·intro x hx;cases hx
theorem Tm.OfSays.few {rs:RuleL} {i j er:Int} {ps:PairL} (h:Tm.OfSays rs i j er ps):ps.length≤1000:=by
 rcases h with ⟨_,_,rfl⟩ | ⟨_,_,_,rfl⟩ | ⟨hr,a,b,ha,_,_,_,⟨_,h⟩ | ⟨_,rfl⟩⟩
 ·simp
 ·simp
 ·have h1:=h.len
  obtain ⟨eL,_⟩:=Tm.ruleErr_ok ((Tm.rulesErr_ok hr).2 a ha)
  have:=Tm.err_len eL
  omega
 ·simp
def Tm.Lens (ps:PairL):Prop:=ps.length≤1000∧∀ k,k < ps.length→(ps[k]?.getD ([],[])).1.length≤1000∧(ps[k]?.getD ([],[])).2.length≤1000
theorem Tm.Lens.nil:Tm.Lens []:=⟨by simp,fun k hk=>by simp at hk⟩
theorem Tm.Lens.of {ps:PairL} (hl:ps.length≤1000) (h:∀ x∈ps,x.1.length≤1000∧x.2.length≤1000):Tm.Lens ps:=⟨hl,fun k hk=>by
 rw [List.getElem?_eq_getElem hk]
 exact h _ (List.getElem_mem hk)⟩
theorem Tm.last_mem {rs:RuleL} {ws:List (Nat × Nat)} {k:Nat} {l:PairL} (h:Tm.LastTo rs ws k l):∀ x∈l,x.1.length≤1000∧x.2.length≤1000:=by
 obtain ⟨f,h1,rfl⟩:=h
 intro x hx
 obtain ⟨l,hl,hx⟩:=List.mem_flatten.1 hx
 obtain ⟨j,hj,rfl⟩:=List.mem_map.1 hl
 rw [List.mem_range] at hj
 exact Tm.OfSays.short (h1 j hj) x hx
theorem Tm.turn_lens {rk:List Int} {rs:RuleL} {ps:PairL} {er:Int} {rs':RuleL} {ps':PairL} (h:Tm.TurnSays rk rs ps er rs' ps'):Tm.Lens rs'∧Tm.Lens ps':=by
 rcases h with ⟨_,_,rfl,rfl⟩ | ⟨h0,p,l,rfl,h⟩
 ·exact ⟨.nil,.nil⟩
 ·obtain ⟨k1,k2,k3,k4,_⟩:=Tm.turnErr_zero h0
  obtain ⟨h8,hall⟩:=Tm.rulesErr_ok k4
  have hr:∀ x∈rs,x.1.length≤1000∧x.2.length≤1000:=fun x hx=>by
   obtain ⟨k,hk,rfl⟩:=List.getElem_of_mem hx
   have:=hall k hk
   rw [List.getElem?_eq_getElem hk,Option.getD_some] at this
   obtain ⟨e1,e2,_⟩:=Tm.ruleErr_ok this
   have:=Tm.err_len e1
   have:=Tm.err_len e2
   exact ⟨by omega,by omega⟩
  have hp:∀ x∈p :: l,x.1.length≤1000∧x.2.length≤1000:=fun x hx=>by
   obtain ⟨k,hk,rfl⟩:=List.getElem_of_mem hx
   have:=Tm.firstP_zero k3 k hk
   rw [List.getElem?_eq_getElem hk,Option.getD_some] at this
   have h1:=Tm.err_len this.1
   have h2:=Tm.err_len this.2
   exact ⟨by omega,by omega⟩
  have hll:l.length≤1000:=by simp at k2;omega
  rcases h with ⟨_,_,rfl,rfl⟩ | ⟨_,_,_,rfl,rfl⟩ | ⟨_,_,_,_,rfl,rfl⟩ | ⟨hj,_,hd,hw⟩
  ·exact ⟨.nil,.nil⟩
  ·exact ⟨.of (by omega) hr,.of hll fun x hx=>hp x (by simp [hx])⟩
  ·exact ⟨.nil,.nil⟩
  ·obtain ⟨f1,f2⟩:=Tm.joinErr_two hj
   have hdr:=Tm.dir_right (Tm.form_right f1) (Tm.form_right f2) hd
   have l1:=Tm.err_len hdr.1
   have l2:=Tm.err_len hdr.2
   rcases hw with ⟨_,_,rfl,rfl⟩ | ⟨w1,e,q,hl,⟨_,_,rfl,rfl⟩ | ⟨_,_,_,rfl,rfl⟩ | ⟨he,hq,_,rfl,rfl⟩⟩
   ·exact ⟨.nil,.nil⟩
   ·exact ⟨.nil,.nil⟩
   ·exact ⟨.nil,.nil⟩
   ·refine ⟨.of (by rw [List.length_append];simp;omega) fun x hx=>?_,.of (by omega) fun x hx=>?_⟩
    ·rcases List.mem_append.1 hx with hx | hx
     ·exact hr x (List.mem_filter.1 hx).1
     ·simp only [List.mem_cons,List.not_mem_nil,or_false] at hx
      subst hx
      exact ⟨Nat.le_trans l1 (by omega),Nat.le_trans l2 (by omega)⟩
    ·rcases List.mem_append.1 hx with hx | hx
     ·rcases List.mem_append.1 hx with hx | hx
      ·exact hp x (by simp [hx])
      ·exact hr x (List.mem_filter.1 hx).1
     ·rcases hl with ⟨_,hl⟩ | ⟨hn,_⟩
      ·exact Tm.last_mem hl x hx
      ·exact absurd he hn
end Go.Proofs.YtglohanbpjaieaaGreat
namespace Go.Proofs.YtglohanbpjaieaaGreat
open Go.Proofs Go.RowKit Go.Shelf Go.Maps Go.Deep
def fr (n:Nat) (f:Nat→Value):Act:=⟨((List.range n).map f).toArray,[]⟩
def updF (f:Nat→Value) (d:Nat) (v:Value):Nat→Value:=fun i=>cond (Nat.beq i d) v (f i)
theorem fr_of {A:Act} {n:Nat} (h:A.tmps.size = n) (hd:A.defers = []):A = fr n fun i=>A.tmps.getD i undef:=by
 obtain ⟨t,d⟩:=A
 subst h hd
 unfold fr
 congr 1
 apply Array.ext
 ·simp
 ·intro i h1 h2
  simp [h1]
theorem fr_eval {n:Nat} (f:Nat→Value) {i:Nat} (h:i < n):(fr n f).eval (.tmp i) = f i:=by
 simp [fr,Act.eval,h]
theorem fr_at {n:Nat} (f:Nat→Value) {i:Nat} (h:i < n):(fr n f).tmps[i]? = some (f i):=by
 simp [fr,h]
theorem fr_put {n:Nat} (f:Nat→Value) (d:Nat) (v:Value):(fr n f).put (some d) v = fr n (updF f d v):=by
 unfold fr Act.put
 simp only
 congr 1
 apply Array.ext
 ·simp
 ·intro i h1 h2
  have h3:i < n:=by simpa using h2
  rw [Array.getElem_setIfInBounds (by simpa using h3)]
  by_cases e:d = i
  ·subst e
   simp [updF]
  ·have:Nat.beq i d = false:=by
    cases hb:Nat.beq i d
    ·rfl
    ·exact absurd (Nat.eq_of_beq_eq_true hb).symm e
   simp [updF,e,this]
def edgesOk (ops:Array Oper):Bool:=(List.range ops.size).all fun i=>((ops[i]?).map fun o=>o.after.all fun e=>!Region.binds .any e || Nat.blt e.on i).getD true
theorem ready_none {ops:Array Oper} (he:edgesOk ops = true) {l:Array Bool} (hl:l.size = ops.size) (h:Region.ready .any ops l = []):∀ i,i < ops.size→l.getD i false = true:=by
 intro i
 induction i using Nat.strongRecOn with
 | ind i ih =>
  intro hi
  cases hg:l.getD i false with
  | true=>rfl
  | false =>
   have hm:i∈Region.ready .any ops l:=by
    refine mem_ready.2 ⟨?_,ops[i],Array.getElem?_eq_getElem hi,fun e hme hb=>?_⟩
    ·have hil:i < l.size:=by omega
     simp [hil] at hg ⊢
     exact hg
    ·unfold edgesOk at he
     have h1:=List.all_eq_true.1 he i (List.mem_range.2 hi)
     rw [Array.getElem?_eq_getElem hi] at h1
     simp only [Option.map_some,Option.getD_some] at h1
     have h2:=Array.all_eq_true_iff_forall_mem.1 h1 e hme
     rw [hb] at h2
     simp only [Bool.not_true,Bool.false_or] at h2
     have h3:e.on < i:=by simpa [Nat.blt_eq] using h2
     exact ih e.on h3 (by omega)
   rw [h] at hm
   cases hm
theorem table_region {ops:Array Oper} {R:Exit→Act→World→Prop} {S:World→Prop} (n N:Nat) (D:Nat→Nat) (V f0:Nat→Value) (fx:Nat→Prop) (hN:ops.size = N) (he:edgesOk ops = true) (hD:∀ i j,i < N→j < N→D i = D j→i = j) (hfx:∀ s,fx s→∀ i,i < N→D i≠s)
 (step:∀ i,i < N→∀ f w,S w→(∀ s,fx s→f s = f0 s)→(∀ o,ops[i]? = some o→∀ e∈o.after,Region.binds .any e = true→f (D e.on) = V e.on)→wpOp Tryz.prog ops R i (fun a w'=>a = fr n (updF f (D i) (V i))∧S w') (fr n f) w)
 (fin:∀ f w,S w→(∀ s,fx s→f s = f0 s)→(∀ i,i < N→f (D i) = V i)→R .normal (fr n f) w) (w:World) (hS:S w):wpAnyH Tryz.prog .any ops R S N (Array.replicate N false) (fr n f0) w:=by
 refine wpAnyH_inv (fun m l a w=>∃ f,a = fr n f∧S w∧l.size = N∧l.toList.countP (fun x=>!x) = m∧(∀ s,fx s→f s = f0 s)∧(∀ i,i < N→l.getD i false = true→f (D i) = V i)) ?_ ?_ ?_ N _ _ w ⟨f0,rfl,hS,by simp,by simp [List.countP_replicate],fun _ _=>rfl,fun i hi h=>by simp [hi] at h⟩
 ·rintro m l a w ⟨f,rfl,hS,hl,_,h1,h2⟩ hr
  have hall:=ready_none he (by omega) hr
  exact fin f w hS h1 fun i hi=>h2 i hi (hall i (by omega))
 ·rintro l a w ⟨f,rfl,hS,hl,hc,h1,h2⟩
  refine List.eq_nil_iff_forall_not_mem.2 fun i hi=>?_
  obtain ⟨h3,o,ho,_⟩:=mem_ready.1 hi
  have hil:i < l.size:=by rw [hl,← hN];exact (Array.getElem?_eq_some_iff.1 ho).1
  have h4:=List.countP_eq_zero.1 hc l[i] (Array.getElem_mem_toList hil)
  simp [hil] at h3
  simp [h3] at h4
 ·rintro m l a w ⟨f,rfl,hS,hl,hc,h1,h2⟩ i hi
  obtain ⟨h3,o,ho,h4⟩:=mem_ready.1 hi
  have hiN:i < N:=by rw [← hN];exact (Array.getElem?_eq_some_iff.1 ho).1
  have hil:i < l.size:=by omega
  have h5:l[i] = false:=by simpa [hil] using h3
  have hlt:∀ e∈o.after,Region.binds .any e = true→e.on < N:=fun e hme hb=>by
   have:=h4 e hme hb
   by_cases h6:e.on < l.size
   ·omega
   ·simp [h6] at this
  refine wpOp_mono (fun a' w' h=>?_) (step i hiN f w hS h1 fun o' ho' e hme hb=>?_)
  ·obtain ⟨rfl,hS'⟩:=h
   refine ⟨hS',updF f (D i) (V i),rfl,hS',by simp [hl],?_,fun s hs=>?_,fun j hj hlj=>?_⟩
   ·have hc2:(l.setIfInBounds i true).toList = l.toList.set i true:=by simp
    rw [hc2,List.countP_set (by simpa using hil)]
    simp only [Array.getElem_toList,h5,hc]
    simp
   ·have:Nat.beq s (D i) = false:=by
     cases hb:Nat.beq s (D i)
     ·rfl
     ·exact absurd (Nat.eq_of_beq_eq_true hb).symm (hfx s hs i hiN)
    simp only [updF,this,cond_false]
    exact h1 s hs
   ·by_cases e:j = i
    ·subst e
     simp [updF]
    ·have:Nat.beq (D j) (D i) = false:=by
      cases hb:Nat.beq (D j) (D i)
      ·rfl
      ·exact absurd (hD j i hj hiN (Nat.eq_of_beq_eq_true hb)) e
     simp only [updF,this,cond_false]
     refine h2 j hj ?_
     have hjl:j < l.size:=by omega
     simpa [hjl,Array.getElem_setIfInBounds,Ne.symm e] using hlj
  ·obtain rfl:o' = o:=by rw [ho] at ho';exact (Option.some.inj ho').symm
   exact h2 e.on (hlt e hme hb) (h4 e hme hb)
theorem dep_of {ops:Array Oper} {i:Nat} {f:Nat→Value} {D:Nat→Nat} {V:Nat→Value} {o:Oper} (hd:∀ o,ops[i]? = some o→∀ e∈o.after,Region.binds .any e = true→f (D e.on) = V e.on) (ho:ops[i]? = some o) (j:Nat) (h:(o.after.toList.any fun e=>Region.binds .any e && e.on == j) = true):f (D j) = V j:=by
 obtain ⟨e,hme,hb⟩:=List.any_eq_true.1 h
 rw [Bool.and_eq_true] at hb
 have:=hd o ho e (Array.mem_toList_iff.1 hme) hb.1
 rwa [eq_of_beq hb.2] at this
theorem lt_snoc {P:Nat→Prop} {n:Nat} (h:∀ i,i < n→P i) (hn:P n):∀ i,i < n+1→P i:=fun i hi=>by
 by_cases e:i = n
 ·subst e;exact hn
 ·exact h i (by omega)
section
variable {ops:Array Oper} {R:Exit→Act→World→Prop} {S:World→Prop} {n:Nat} {f:Nat→Value} {w:World}
theorem do_take {d:Nat} {v:Value} {i:Nat} {op:Op} {ty:TypeId} {pos:String} {af:Array Edge} {gd:Option (Nat × Bool)} (hi:ops[i]? = some ⟨some d,op,ty,pos,af,gd⟩) (hy:YieldsIf Tryz.prog ops S ⟨some d,op,ty,pos,af,gd⟩ v (fr n f)) (hS:S w):wpOp Tryz.prog ops R i (fun a w'=>a = fr n (updF f d v)∧S w') (fr n f) w :=
 hy.wpOp hi hS ⟨fr_put f d v,hS⟩
theorem do_call {d F:Nat} {v:Value} {vs:Array Value} {i:Nat} {op:Op} {ty:TypeId} {pos:String} {af:Array Edge} {gd:Option (Nat × Bool)} (hi:ops[i]? = some ⟨some d,op,ty,pos,af,gd⟩) (hw:Region.wanted ⟨some d,op,ty,pos,af,gd⟩ (yielded ops (fr n f).tmps) = true) (ho:∀ w,(execOp (fr n f).eval ⟨some d,op,ty,pos,af,gd⟩).run Tryz.prog w = .ok (.enter F vs) w)
 (hc:Calls Tryz.prog F vs w fun e w'=>e = .returned v∧S w'):wpOp Tryz.prog ops R i (fun a w'=>a = fr n (updF f d v)∧S w') (fr n f) w:=by
 refine wpOp_step hi fun K' hK=>?_
 rw [if_pos hw]
 unfold Oper.wp
 rw [ho w]
 show Calls _ _ _ _ _
 refine hc.mono fun e w' he=>?_
 obtain ⟨rfl,hS⟩:=he
 exact hK _ _ ⟨fr_put f d v,hS⟩
theorem w_none {o:Oper} (h:o.guard = none):Region.wanted o (yielded ops (fr n f).tmps) = true:=by simp [Region.wanted,h]
theorem w_some {o:Oper} {j d:Nat} {b:Bool} (h:o.guard = some (j,b)) (hj:(ops[j]?).bind (·.dst) = some d) (hd:d < n) (hf:f d = .bool b):Region.wanted o (yielded ops (fr n f).tmps) = true:=by
 simp [Region.wanted,h,yielded,hj,fr_at f hd,hf]
theorem y_move {o:Oper} {x:Nat} {v:Value} (hw:Region.wanted o (yielded ops (fr n f).tmps) = true) (h:o.op = .move (.tmp x)) (hx:x < n) (hv:f x = v):YieldsIf Tryz.prog ops S o v (fr n f):=by
 refine .inl ⟨hw,fun w _=>?_⟩
 unfold execOp
 simp only [h,fr_eval f hx,hv]
 go_simp
theorem y_assign {o:Oper} {x:Nat} {v:Value} (hw:Region.wanted o (yielded ops (fr n f).tmps) = true) (h:o.op = .assign (.tmp x)) (hx:x < n) (hv:f x = v):YieldsIf Tryz.prog ops S o v (fr n f):=by
 refine .inl ⟨hw,fun w _=>?_⟩
 unfold execOp
 simp only [h,fr_eval f hx,hv]
 go_simp
theorem y_eqi {o:Oper} {x y:Nat} {z:Int} (hw:Region.wanted o (yielded ops (fr n f).tmps) = true) (h:o.op = .binOp .eql 25 (.tmp x) (.tmp y) 25) (hx:x < n) (hy:y < n) (hv:f x = .int .i64 z) (hv':f y = .int .i64 z):YieldsIf Tryz.prog ops S o (.bool true) (fr n f):=by
 refine .inl ⟨hw,fun w _=>?_⟩
 unfold execOp
 simp only [h,fr_eval f hx,fr_eval f hy,hv,hv']
 go_simp
theorem y_eqb {o:Oper} {x y:Nat} {z:Bool} (hw:Region.wanted o (yielded ops (fr n f).tmps) = true) (h:o.op = .binOp .eql 4 (.tmp x) (.tmp y) 4) (hx:x < n) (hy:y < n) (hv:f x = .bool z) (hv':f y = .bool z):YieldsIf Tryz.prog ops S o (.bool true) (fr n f):=by
 refine .inl ⟨hw,fun w _=>?_⟩
 unfold execOp
 simp only [h,fr_eval f hx,fr_eval f hy,hv,hv']
 go_simp
theorem y_pick {o:Oper} {x y:Nat} {u:Operand} {v:Value} (hw:Region.wanted o (yielded ops (fr n f).tmps) = true) (h:o.op = .pick (.tmp x) (.tmp y) u) (hx:x < n) (hy:y < n) (hv:f x = .bool true) (hv':f y = v):YieldsIf Tryz.prog ops S o v (fr n f):=by
 refine .inl ⟨hw,fun w _=>?_⟩
 unfold execOp
 simp only [h,fr_eval f hx,fr_eval f hy,hv,hv']
 go_simp
theorem y_index {o:Oper} {x b off l c:Nat} (hw:Region.wanted o (yielded ops (fr n f).tmps) = true) (h:o.op = .indexAddr 24 (.tmp x) (.const (.int .i64 0))) (hx:x < n) (hv:f x = .slice (some ⟨b,off,none⟩) l c) (hl:0 < l):YieldsIf Tryz.prog ops S o (.pointer (some ⟨b,off,none⟩)) (fr n f):=by
 refine .inl ⟨hw,fun w _=>?_⟩
 have hl':(0:Int) < (l:Int):=by omega
 unfold execOp
 simp only [h,fr_eval f hx,hv]
 go_simp
theorem y_field0 {o:Oper} {x b off:Nat} (hw:Region.wanted o (yielded ops (fr n f).tmps) = true) (h:o.op = .fieldAddr 40 (.tmp x) 0) (hx:x < n) (hv:f x = .pointer (some ⟨b,off,none⟩)):YieldsIf Tryz.prog ops S o (.pointer (some ⟨b,off,none⟩)) (fr n f):=by
 refine .inl ⟨hw,fun w _=>?_⟩
 unfold execOp
 simp only [h,fr_eval f hx,hv]
 go_simp
theorem y_field1 {o:Oper} {x b off:Nat} (hw:Region.wanted o (yielded ops (fr n f).tmps) = true) (h:o.op = .fieldAddr 40 (.tmp x) 1) (hx:x < n) (hv:f x = .pointer (some ⟨b,off,none⟩)):YieldsIf Tryz.prog ops S o (.pointer (some ⟨b,off+1,none⟩)) (fr n f):=by
 refine .inl ⟨hw,fun w _=>?_⟩
 unfold execOp
 simp only [h,fr_eval f hx,hv]
 go_simp
theorem y_load {o:Oper} {x l c:Nat} {ad:Addr} {a:Option Addr} (hw:Region.wanted o (yielded ops (fr n f).tmps) = true) (h:o.op = .load 35 (.tmp x)) (hx:x < n) (hv:f x = .pointer (some ad)) (hc:∀ w,S w→w.cell? ad = some (.slice a l c)):YieldsIf Tryz.prog ops S o (.slice a l c) (fr n f):=by
 refine .inl ⟨hw,fun w hS=>?_⟩
 have hc':=hc w hS
 unfold execOp
 simp only [h,fr_eval f hx,hv]
 go_simp
theorem run_enter {F:Nat} {fn:Func} (hf:Tryz.prog.funcs[F]? = some fn) (h1:(fn.name == "runtime.NumGoroutine") = false) (h2:fn.body.isNone = false) (vs:Array Value) (w:World):(callFunc F vs).run Tryz.prog w = .ok (.enter F vs) w:=by
 have h3:¬ fn.name = "runtime.NumGoroutine":=fun e=>by rw [e] at h1;simp at h1
 have h4:¬ fn.body = none:=fun e=>by rw [e] at h2;simp at h2
 unfold callFunc
 go_simp
theorem e_call0 {F d:Nat} {ty:TypeId} {pos:String} {af:Array Edge} {gd:Option (Nat × Bool)} {fn:Func} (hf:Tryz.prog.funcs[F]? = some fn) (h1:(fn.name == "runtime.NumGoroutine") = false) (h2:fn.body.isNone = false) (w:World):(execOp (fr n f).eval ⟨some d,.call { callee:=.value (.func F),args:=#[],argTypes:=#[] },ty,pos,af,gd⟩).run Tryz.prog w = .ok (.enter F #[]) w:=by
 rw [execOp_call_go,run_enter hf h1 h2]
 simp
theorem e_call2 {F d x y:Nat} {ts:Array TypeId} {ty:TypeId} {pos:String} {af:Array Edge} {gd:Option (Nat × Bool)} {u v:Value} {fn:Func} (hf:Tryz.prog.funcs[F]? = some fn) (h1:(fn.name == "runtime.NumGoroutine") = false) (h2:fn.body.isNone = false) (hx:x < n) (hy:y < n) (hu:f x = u) (hv:f y = v) (w:World):(execOp (fr n f).eval ⟨some d,.call { callee:=.value (.func F),args:=#[.tmp x,.tmp y],argTypes:=ts },ty,pos,af,gd⟩).run Tryz.prog w = .ok (.enter F #[u,v]) w:=by
 rw [execOp_call_go,run_enter hf h1 h2]
 simp [fr_eval f hx,fr_eval f hy,hu,hv]
end
end Go.Proofs.YtglohanbpjaieaaGreat
