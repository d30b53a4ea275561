/-
  Parts of the proof: Rul10, Rul11, RTrue1, RTrue2, Nor1, Joi1, Clo2, Clo3, Clo4.
-/
import Derived.Test.YtglohanbpjaieaaGreatBcr18
import Derived.Test.YtglohanbpjaieaaGreatBcr9
import Derived.Test.YtglohanbpjaieaaGreatBcr15
import Derived.Test.YtglohanbpjaieaaGreatBcr16
import Derived.Test.YtglohanbpjaieaaGreatBcr17
import Derived.Deep.RegionHeld3
import Derived.Test.YtglohanbpjaieaaGreatBcr14
namespace Go.Proofs.YtglohanbpjaieaaGreat
open Go.Proofs Go.RowKit Go.Shelf Go.Maps
theorem box2_ret {fn:Func} {tmps:Array Value} {W:World} {a b B:Nat} {q:Int} (h:fn.results = #[.cell a 43,.cell b 25]) (ha:tmps.getD a undef = .pointer (some ⟨B,0,none⟩)) (hb:tmps.getD b undef = .pointer (some ⟨B+1,0,none⟩)) (b0:Boxed W B 43 (.slice none 0 0)) (b1:Boxed W (B+1) 25 (.int .i64 0)) :
 (results fn tmps).run Tryz.prog ((W.setCell ⟨B,0,none⟩ (.slice none 0 0)).setCell ⟨B+1,0,none⟩ (.int .i64 q)) = .ok (.tuple #[.slice none 0 0,.int .i64 q]) ((W.setCell ⟨B,0,none⟩ (.slice none 0 0)).setCell ⟨B+1,0,none⟩ (.int .i64 q)):=by
 have b1':Boxed (W.setCell ⟨B,0,none⟩ (.slice none 0 0)) (B+1) 25 (.int .i64 0):=(Below.heap_setCell W ⟨B,0,none⟩ _ (B+1) (by show B+1≠B;omega)).trans b1
 have b0':Boxed ((W.setCell ⟨B,0,none⟩ (.slice none 0 0)).setCell ⟨B+1,0,none⟩ (.int .i64 q)) B 43 (.slice none 0 0):=(Below.heap_setCell _ ⟨B+1,0,none⟩ _ B (by show B≠B+1;omega)).trans (b0.set _)
 exact results_box2 h ha hb b0'.cell (b1'.set _).cell
set_option maxRecDepth 100000 in
set_option maxHeartbeats 2000000 in
theorem steps_any (rs:RuleL) (t:List Int) (al at':Option Addr) (cl ct:Nat) (w:World) (hR:RulesAt w.heap.size w al rs) (hT:Ints w.heap.size w at' t) (h1:t.length≤ct) (h2:ct≤maxLen) :
 Calls Tryz.prog 18 #[.slice al rs.length cl,.slice at' t.length ct] w fun e w'=>StepsAns rs t w e w':=by
 by_cases hr:Tm.rulesErr rs = 0
 ·by_cases ht:Tm.err t = 0
  ·exact steps_right rs t al at' cl ct w hr ht hR hT h1 h2
  ·have e1:Tm.stepErr rs t = Tm.err t:=by unfold Tm.stepErr;rw [if_pos hr,if_neg ht]
   have e2:Tm.stepVal rs t = []:=by unfold Tm.stepVal;rw [e1,if_neg ht]
   unfold StepsAns
   rw [e1,e2]
   clear e1 e2
   obtain ⟨W4,hW4⟩:∃ W4,(((w.alloc (.cells #[.slice al rs.length cl] 23)).alloc (.cells #[.slice at' t.length ct] 35)).alloc (.cells #[.slice none 0 0] 43)).alloc (.cells #[.int .i64 0] 25) = W4:=⟨_,rfl⟩
   obtain ⟨hB4,bL,bT,b0,b1,hs4⟩:=steps_boxes w W4 al at' rs.length cl t.length ct hW4
   have HW4:=hid hW4
   clear hW4
   have cL4:=bL.cell
   have C1:=hid (rulesCheck_any rs al cl W4 ((hR.below hB4).mono hB4.size))
   rw [hr] at C1
   have C2:=hid (fun W (hW:Below W4.heap.size W4 W)=>check_any t at' ct W ((hT.below (hB4.trans (hW.mono hB4.size))).mono (Nat.le_trans hB4.size hW.size)))
   have hne:(Tm.err t != 0) = true:=by simpa using ht
   clear hr ht hR hT
   generalize Tm.err t = q at *
   go_enter Tryz.func18,Tryz.ntmps18
   go_wp2_with fail
   rw [HW4.out]
   go_wp2_with (first
    | (go_at_call 48;refine C1.out.mono ?_;rintro e w1 ⟨rfl,hB1⟩;have cT1:=(hB1.cell (p:=⟨w.heap.size+1,0,none⟩) (by show w.heap.size+1 < _;omega)).trans bT.cell)
    | (go_at_call 49;refine (C2.out w1 hB1).mono ?_;rintro e w2 ⟨rfl,hB2⟩;have hB12:=hB1.trans (hB2.mono hB1.size);have b08:Boxed w2 (w.heap.size+1+1) 43 (.slice none 0 0):=(hB12.block _ b0.lt).trans b0;have b18:Boxed w2 (w.heap.size+1+1+1) 25 (.int .i64 0):=(hB12.block _ b1.lt).trans b1;have k0:=b08.cell;have k1:=b18.cell;have f0:=b08.frozen;have f1:=b18.frozen;have b18':Boxed (w2.setCell ⟨w.heap.size+1+1,0,none⟩ (.slice none 0 0)) (w.heap.size+1+1+1) 25 (.int .i64 0):=(Below.heap_setCell w2 ⟨w.heap.size+1+1,0,none⟩ _ (w.heap.size+1+1+1) (by show w.heap.size+1+1+1≠w.heap.size+1+1;omega)).trans b18;have k1':=b18'.cell;have f1':=b18'.frozen))
   refine bodyPost_ret (box2_ret rfl rfl rfl b08 b18) rfl ?_
   have hb:=hB4.trans (hB12.mono hB4.size)
   exact ⟨_,rfl,NewT.nil _ _,(hb.setCell (p:=⟨w.heap.size+1+1,0,none⟩) (by show w.heap.size≤w.heap.size+1+1;omega) _).setCell (p:=⟨w.heap.size+1+1+1,0,none⟩) (by show w.heap.size≤w.heap.size+1+1+1;omega) _⟩
 ·have e1:Tm.stepErr rs t = Tm.rulesErr rs:=by unfold Tm.stepErr;rw [if_neg hr]
  have e2:Tm.stepVal rs t = []:=by unfold Tm.stepVal;rw [e1,if_neg hr]
  unfold StepsAns
  rw [e1,e2]
  clear e1 e2
  obtain ⟨W4,hW4⟩:∃ W4,(((w.alloc (.cells #[.slice al rs.length cl] 23)).alloc (.cells #[.slice at' t.length ct] 35)).alloc (.cells #[.slice none 0 0] 43)).alloc (.cells #[.int .i64 0] 25) = W4:=⟨_,rfl⟩
  obtain ⟨hB4,bL,bT,b0,b1,hs4⟩:=steps_boxes w W4 al at' rs.length cl t.length ct hW4
  have HW4:=hid hW4
  clear hW4
  have cL4:=bL.cell
  have C1:=hid (rulesCheck_any rs al cl W4 ((hR.below hB4).mono hB4.size))
  have hne:(Tm.rulesErr rs != 0) = true:=by simpa using hr
  clear hr hR hT
  generalize Tm.rulesErr rs = q at *
  go_enter Tryz.func18,Tryz.ntmps18
  go_wp2_with fail
  rw [HW4.out]
  go_wp2_with (first
   | (go_at_call 48;refine C1.out.mono ?_;rintro e w2 ⟨rfl,hB12⟩;have b08:Boxed w2 (w.heap.size+1+1) 43 (.slice none 0 0):=(hB12.block _ b0.lt).trans b0;have b18:Boxed w2 (w.heap.size+1+1+1) 25 (.int .i64 0):=(hB12.block _ b1.lt).trans b1;have k0:=b08.cell;have k1:=b18.cell;have f0:=b08.frozen;have f1:=b18.frozen;have b18':Boxed (w2.setCell ⟨w.heap.size+1+1,0,none⟩ (.slice none 0 0)) (w.heap.size+1+1+1) 25 (.int .i64 0):=(Below.heap_setCell w2 ⟨w.heap.size+1+1,0,none⟩ _ (w.heap.size+1+1+1) (by show w.heap.size+1+1+1≠w.heap.size+1+1;omega)).trans b18;have k1':=b18'.cell;have f1':=b18'.frozen))
  refine bodyPost_ret (box2_ret rfl rfl rfl b08 b18) rfl ?_
  have hb:=hB4.trans (hB12.mono hB4.size)
  exact ⟨_,rfl,NewT.nil _ _,(hb.setCell (p:=⟨w.heap.size+1+1,0,none⟩) (by show w.heap.size≤w.heap.size+1+1;omega) _).setCell (p:=⟨w.heap.size+1+1+1,0,none⟩) (by show w.heap.size≤w.heap.size+1+1+1;omega) _⟩
def groupL:RuleL:=[([4,0,-1],[-1]),([4,2,-1,-1],[0]),([4,4,-1,-2,-3],[4,-1,4,-2,-3])]
theorem NewT.at {base:Nat} {W:World} {v:Value} {sts:StepL} (h:NewT base W v sts) (hp:0 < sts.length):∃ g cap,v = .slice (some ⟨g,0,none⟩) sts.length cap∧∀ j,j < sts.length→∃ ad c,W.cell? ⟨g,j * 3,none⟩ = some (.int .i64 ((sts[j]?.getD (0,0,[])).1:Int))∧W.cell? ⟨g,j * 3+1,none⟩ = some (.int .i64 ((sts[j]?.getD (0,0,[])).2.1:Int)) ∧
 W.cell? ⟨g,j * 3+2,none⟩ = some (.slice ad (sts[j]?.getD (0,0,[])).2.2.length c)∧Ints W.heap.size W ad (sts[j]?.getD (0,0,[])).2.2∧(sts[j]?.getD (0,0,[])).2.2.length≤c∧c≤maxLen:=by
 obtain ⟨us,h1,h2⟩:=h
 have hl:us.length = sts.length * 3:=h1.1
 rcases h1.2 with ⟨rfl,hn⟩ | ⟨g,cap,cur,rfl,r⟩
 ·omega
 ·refine ⟨g,cap,rfl,fun j hj=>?_⟩
  obtain ⟨u,q1,q2,q3,hN⟩:=h2 j hj
  obtain ⟨ad,c,rfl,hI,c1,c2⟩:=New.ints hN
  have cc:=fun k hk=>World.ownsRow.cellAt h1 k hk
  exact ⟨ad,c,by rw [cc _ (by omega),q1],by rw [cc _ (by omega),q2],by rw [cc _ (by omega),q3],hI,c1,c2⟩
theorem Tm.rowL_mem {rs:RuleL} {t:List Int} {a:Nat} {x:Nat × Nat × List Int}:∀ n,x∈Tm.rowL rs t a n→x.1 < n∧x.2.1 = a∧Tm.hitB rs t a x.1 = true∧x.2.2 = Tm.hitVal rs t a x.1:=by
 intro n
 induction n with
 | zero=>intro h;simp [Tm.rowL] at h
 | succ n ih =>
  intro h
  rw [Tm.rowL,List.mem_append] at h
  rcases h with h | h
  ·obtain ⟨h1,h2⟩:=ih h
   exact ⟨by omega,h2⟩
  ·split at h
   ·simp only [List.mem_cons,List.not_mem_nil,or_false] at h
    subst h
    exact ⟨by simp,rfl,by assumption,rfl⟩
   ·simp at h
theorem Tm.allL_mem {rs:RuleL} {t:List Int} {x:Nat × Nat × List Int}:∀ m,x∈Tm.allL rs t m→x.2.1 < m∧x.1 < rs.length∧Tm.hitB rs t x.2.1 x.1 = true∧x.2.2 = Tm.hitVal rs t x.2.1 x.1:=by
 intro m
 induction m with
 | zero=>intro h;simp [Tm.allL] at h
 | succ m ih =>
  intro h
  rw [Tm.allL,List.mem_append] at h
  rcases h with h | h
  ·obtain ⟨h1,h2⟩:=ih h
   exact ⟨by omega,h2⟩
  ·obtain ⟨h1,h2,h3,h4⟩:=Tm.rowL_mem _ h
   rw [h2]
   exact ⟨by omega,h1,h3,h4⟩
theorem Tm.rowE_all {rs:RuleL} {t:List Int} {a:Nat}:∀ n,Tm.rowE rs t a n = 0→∀ k,k < n→Tm.hitB rs t a k = true→Tm.hitErr rs t a k = 0:=by
 intro n
 induction n with
 | zero=>intro _ k hk;omega
 | succ n ih =>
  intro h k hk hb
  rw [Tm.rowE] at h
  by_cases h0:Tm.rowE rs t a n = 0
  ·rw [if_pos h0] at h
   by_cases e:k = n
   ·subst e;rw [if_pos hb] at h;exact h
   ·exact ih h0 k (by omega) hb
  ·rw [if_neg h0] at h;exact absurd h h0
theorem Tm.allE_all {rs:RuleL} {t:List Int}:∀ m,Tm.allE rs t m = 0→∀ a,a < m→∀ k,k < rs.length→Tm.hitB rs t a k = true→Tm.hitErr rs t a k = 0:=by
 intro m
 induction m with
 | zero=>intro _ a ha;omega
 | succ m ih =>
  intro h a ha
  rw [Tm.allE] at h
  by_cases h0:Tm.allE rs t m = 0
  ·rw [if_pos h0] at h
   by_cases e:a = m
   ·subst e;exact Tm.rowE_all _ h
   ·exact ih h0 a (by omega)
  ·rw [if_neg h0] at h;exact absurd h h0
structure Tm.Step1 (L R t u:List Int) (a:Nat) (m:Asg):Prop where
 fit:Tm.fit L (Tm.part t a) = some m
 goes:u = Tm.put t a (Tm.applied (Tm.fitL m 8) R)
 small:u.length≤30
theorem Tm.hit_step {rs:RuleL} {t:List Int} {a k:Nat} (hr:Tm.rulesErr rs = 0) (ht:Tm.err t = 0) (ha:a < t.length) (hk:k < rs.length) (hb:Tm.hitB rs t a k = true) (he:Tm.hitErr rs t a k = 0) :
 ∃ m,Tm.Step1 (rs[k]?.getD ([],[])).1 (rs[k]?.getD ([],[])).2 t (Tm.hitVal rs t a k) a m:=by
 obtain ⟨_,hall⟩:=Tm.rulesErr_ok hr
 obtain ⟨hL,hR,_⟩:=Tm.ruleErr_ok (hall k hk)
 rw [Tm.hitB_fit hL ht ha,Option.isSome_iff_exists] at hb
 obtain ⟨m,hm⟩:=hb
 obtain ⟨e1,e2⟩:=Tm.hit_fit hL hR ht ha hm
 rw [he] at e1
 by_cases h30:30 < (Tm.put t a (Tm.applied (Tm.fitL m 8) (rs[k]?.getD ([],[])).2)).length
 ·rw [if_pos h30] at e1;omega
 ·rw [if_neg h30] at e2
  exact ⟨m,hm,e2,by rw [e2];omega⟩
theorem Tm.Step1.parts {L R t u:List Int} {a:Nat} {m:Asg} (h:Tm.Step1 L R t u a m) (hL:Tm.err L = 0) (hR:Tm.err R = 0) (ht:Tm.err t = 0) (ha:a < t.length) :
 Terms (Tm.fitL m 8)∧Tm.applied (Tm.fitL m 8) L = Tm.part t a∧Tm.err (Tm.applied (Tm.fitL m 8) R) = 0∧Tm.err u = 0:=by
 have hs:=Terms.of (Tm.subErr_fitL hL (Tm.part_err ht ha) h.fit)
 have hl:=h.small
 have hle:=Tm.applied_put_le (t:=t) (u:=Tm.applied (Tm.fitL m 8) R) (a:=a)
 rw [← h.goes] at hle
 have hu:=Tm.err_applied hs hR (by omega)
 refine ⟨hs,Tm.fit_makes hL (Tm.part_err ht ha) h.fit,hu,?_⟩
 rw [h.goes]
 exact Tm.put_err ht hu ha (by rw [← h.goes];exact hl)
theorem Tm.stepErr_term {rs:RuleL} {t:List Int} (h:Tm.stepErr rs t = 0):Tm.rulesErr rs = 0∧Tm.err t = 0∧Tm.allE rs t t.length = 0:=by
 unfold Tm.stepErr at h
 by_cases h1:Tm.rulesErr rs = 0
 ·rw [if_pos h1] at h
  by_cases h2:Tm.err t = 0
  ·rw [if_pos h2] at h;exact ⟨h1,h2,h⟩
  ·rw [if_neg h2] at h;exact absurd h h2
 ·rw [if_neg h1] at h;exact absurd h h1
theorem len_no {n:Nat} (h:n≠0):((n:Int) == 0) = false:=by rw [beq_eq_false_iff_ne];omega
theorem len_yes {n:Nat} (h:n = 0):((n:Int) == 0) = true:=by rw [beq_iff_eq];omega
def Tm.fm (rs:RuleL):Nat→List Int→Nat→List Int × Nat × Int
 | 0,_,_=>([],0,2)
 | f+1,t,k=>if Tm.stepErr rs t = 0 then (match Tm.stepVal rs t with | []=>(t,k,0) | s :: _=>Tm.fm rs f s.2.2 (k+1)) else ([],0,Tm.stepErr rs t)
def Tm.form (rs:RuleL) (t:List Int):List Int × Nat × Int:=Tm.fm rs 61 t 0
theorem Tm.fm_bad {rs:RuleL} {t:List Int} {f k:Nat} (h:Tm.stepErr rs t≠0):Tm.fm rs (f+1) t k = ([],0,Tm.stepErr rs t):=by rw [Tm.fm,if_neg h]
theorem Tm.fm_end {rs:RuleL} {t:List Int} {f k:Nat} (h:Tm.stepErr rs t = 0) (hn:(Tm.stepVal rs t).length = 0):Tm.fm rs (f+1) t k = (t,k,0):=by
 rw [Tm.fm,if_pos h,List.eq_nil_of_length_eq_zero hn]
theorem Tm.fm_go {rs:RuleL} {t:List Int} {f k:Nat} (h:Tm.stepErr rs t = 0) (hn:0 < (Tm.stepVal rs t).length):Tm.fm rs (f+1) t k = Tm.fm rs f ((Tm.stepVal rs t)[0]?.getD (0,0,[])).2.2 (k+1):=by
 rw [Tm.fm,if_pos h]
 cases hs:Tm.stepVal rs t with
 | nil=>rw [hs] at hn;simp at hn
 | cons s l=>rfl
theorem clone_right (zs:List Int) (a:Option Addr) (cap:Nat) (w:World) (he:Tm.err zs = 0) (hI:Ints w.heap.size w a zs) :
 Calls Tryz.prog 47 #[.slice a zs.length cap] w fun e w'=>∃ v,e = .returned v∧New w.heap.size w' v zs∧Below w.heap.size w w':=by
 obtain ⟨b,off,rfl,_,_⟩:=hI.at (Tm.err_pos he)
 exact clone_any zs b off cap w (Tm.err_len he) hI
set_option maxRecDepth 100000 in
set_option maxHeartbeats 2000000 in
theorem form_any (rs:RuleL) (t:List Int) (al at':Option Addr) (cl ct:Nat) (w:World) (hR:RulesAt w.heap.size w al rs) (hT:Ints w.heap.size w at' t) (h1:t.length≤ct) (h2:ct≤maxLen) :
 Calls Tryz.prog 17 #[.slice al rs.length cl,.slice at' t.length ct] w fun e w'=>∃ v,e = .returned (.tuple #[v,.int .i64 ((Tm.form rs t).2.1:Int),.int .i64 (Tm.form rs t).2.2])∧New w.heap.size w' v (Tm.form rs t).1∧Below w.heap.size w w':=by
 unfold Tm.form
 generalize hg:Tm.fm rs 61 t 0 = res
 have HR:=hid hR
 clear hR
 go_enter Tryz.func17,Tryz.ntmps17
 go_wp2
 go_loopw [1,10] (fun tv v wr=>∃ (k:Nat) (u:List Int) (a:Option Addr) (c:Nat),k≤61∧v = .int .i64 (k:Int)∧tv = .slice a u.length c∧Hid (Ints wr.heap.size wr a u)∧u.length≤c∧c≤maxLen∧Hid (Tm.fm rs (61 - k) u k = res)∧Below w.heap.size w wr) (fun _ v _=>61 - (intOf v).toNat)
 case atStart=>exact ⟨0,t,at',ct,by omega,rfl,rfl,hid hT,h1,h2,hid hg,Below.refl _ _⟩
 case round =>
  obtain ⟨k,u,a,c,hk,rfl,rfl,hI,hc1,hc2,hst,hB⟩:=hrel
  by_cases hlt:k < 61
  ·have hlt':(k:Int) < 61:=by omega
   have hC:=hid (steps_any rs u al a cl c wr ((HR.out.below hB).mono hB.size) hI.out hc1 hc2)
   obtain ⟨f,hf⟩:∃ f,61 - k = f+1:=⟨60 - k,by omega⟩
   rw [hf] at hst
   by_cases he:Tm.stepErr rs u = 0
   ·obtain ⟨_,hu,_⟩:=Tm.stepErr_term he
    by_cases hn:(Tm.stepVal rs u).length = 0
    ·have hr:=hid ((Tm.fm_end (f:=f) (k:=k) he hn).symm.trans hst.out)
     have hCl:=hid (fun W (hW:Below wr.heap.size wr W)=>clone_right u a c W hu ((hI.out.below hW).mono hW.size))
     unfold StepsAns at hC
     rw [he,List.eq_nil_of_length_eq_zero hn] at hC
     clear he hn hu hst hI
     go_wp2_with (first
      | (go_at_call 18;refine hC.out.mono ?_;clear hC;rintro e w1 ⟨v1,rfl,hN1,b1⟩;obtain ⟨va,vc,rfl⟩:=hN1.slice;have HN:=hid hN1;clear hN1)
      | (go_at_call 47;refine (hCl.out w1 b1).mono ?_;clear hCl;rintro e w2 ⟨v2,rfl,hN2,b2⟩;obtain ⟨xa,xc,rfl,_⟩:=New.ints hN2))
     go_ret3
     have B1:=hB.trans (b1.mono hB.size)
     rw [← hr.out]
     exact ⟨_,rfl,hN2.mono B1.size,B1.trans (b2.mono B1.size)⟩
    ·have hp:0 < (Tm.stepVal rs u).length:=by omega
     have hr:=hid ((Tm.fm_go (f:=f) (k:=k) he hp).symm.trans hst.out)
     have hle:=hid (show (Tm.stepVal rs u).length≤1000 by
      obtain ⟨k1,k2,k3⟩:=Tm.stepErr_term he
      have h3:=Tm.allL_le rs u u.length
      have h4:=Tm.err_len k2
      have h5:=(Tm.rulesErr_ok k1).1
      have h6:u.length * rs.length≤30 * 8:=Nat.mul_le_mul h4 h5
      unfold Tm.stepVal
      rw [if_pos he]
      omega)
     unfold StepsAns at hC
     rw [he] at hC
     have hff:f = 61 - (k+1):=by omega
     rw [hff] at hr
     clear he hn hu hst hI hf hff
     generalize Tm.stepVal rs u = sts at *
     have hpi:(0:Int) < (sts.length:Int):=by omega
     have hne:((sts.length:Int) == 0) = false:=len_no (by omega)
     go_wp2_with (first
      | (go_at_call 18;refine hC.out.mono ?_;clear hC;rintro e w1 ⟨v1,rfl,hN1,b1⟩;obtain ⟨g,cg,rfl,hat⟩:=hN1.at hp;obtain ⟨x0,y0,_,_,c02,i0,q0,q1⟩:=hat 0 hp;clear hat;simp only [Nat.zero_mul,Nat.zero_add] at c02;have HN:=hid hN1;clear hN1;generalize (sts[0]?.getD (0,0,[])).2.2 = u1 at *))
     go_roundw
     case rel=>exact ⟨k+1,u1,x0,y0,by omega,by go_num,rfl,hid i0,q0,q1,hid hr.out,hB.trans (b1.mono hB.size)⟩
     case measure=>simp [intOf];omega
   ·have hr:=hid ((Tm.fm_bad (f:=f) (k:=k) he).symm.trans hst.out)
    have hne:(Tm.stepErr rs u != 0) = true:=by simpa using he
    unfold StepsAns at hC
    clear he hst hI
    generalize Tm.stepErr rs u = q at *
    go_wp2_with (first
     | (go_at_call 18;refine hC.out.mono ?_;clear hC;rintro e w1 ⟨v1,rfl,hN1,b1⟩;obtain ⟨va,vc,rfl⟩:=hN1.slice;clear hN1))
    go_ret3
    rw [← hr.out]
    exact ⟨_,rfl,New.nil _ _,hB.trans (b1.mono hB.size)⟩
  ·obtain rfl:k = 61:=by omega
   have hr:=hst.out
   rw [Nat.sub_self,Tm.fm] at hr
   have Hr:=hid hr
   clear hr hst hI
   go_wp2
   go_ret3
   rw [← Hr.out]
   exact ⟨_,rfl,New.nil _ _,hB⟩
def Tm.joinErr (rs:RuleL) (P Q:List Int):Int:=if (Tm.form rs P).2.2 = 0 then (Tm.form rs Q).2.2 else (Tm.form rs P).2.2
theorem Tm.firstP_bad {ps:PairL}:∀ k,k < ps.length→(∀ j,j < k→Tm.pairErr (ps[j]?.getD ([],[])).1 (ps[j]?.getD ([],[])).2 = 0)→Tm.pairErr (ps[k]?.getD ([],[])).1 (ps[k]?.getD ([],[])).2≠0→Tm.firstPair ps = Tm.pairErr (ps[k]?.getD ([],[])).1 (ps[k]?.getD ([],[])).2:=by
 induction ps with
 | nil=>intro k hk;simp at hk
 | cons p l ih =>
  intro k hk h1 h2
  cases k with
  | zero=>simp only [List.getElem?_cons_zero,Option.getD_some] at h2 ⊢;rw [Tm.firstPair,if_neg h2]
  | succ k =>
   have h0:=h1 0 (by omega)
   simp only [List.getElem?_cons_zero,Option.getD_some] at h0
   simp only [List.getElem?_cons_succ] at h2 ⊢
   rw [Tm.firstPair,if_pos h0]
   exact ih k (by simpa using hk) (fun j hj=>by simpa using h1 (j+1) (by omega)) h2
theorem Tm.firstP_all {ps:PairL} (h:∀ k,k < ps.length→Tm.pairErr (ps[k]?.getD ([],[])).1 (ps[k]?.getD ([],[])).2 = 0):Tm.firstPair ps = 0:=by
 induction ps with
 | nil=>rfl
 | cons p l ih =>
  rw [Tm.firstPair,if_pos (by simpa using h 0 (by simp))]
  exact ih fun k hk=>by simpa using h (k+1) (by simpa using hk)
theorem Tm.firstP_zero {ps:PairL} (h:Tm.firstPair ps = 0):∀ k,k < ps.length→Tm.err (ps[k]?.getD ([],[])).1 = 0∧Tm.err (ps[k]?.getD ([],[])).2 = 0:=by
 induction ps with
 | nil=>intro k hk;simp at hk
 | cons p l ih =>
  intro k hk
  by_cases h0:Tm.pairErr p.1 p.2 = 0
  ·rw [Tm.firstPair,if_pos h0] at h
   cases k with
   | zero=>simpa using Tm.pairErr_zero.1 h0
   | succ k=>simpa using ih h k (by simpa using hk)
  ·rw [Tm.firstPair,if_neg h0] at h
   exact absurd h h0
def Tm.eqsErr (ps:PairL):Int:=if 40 < ps.length then 2 else Tm.firstPair ps
def Tm.bothErr (rk:List Int) (ps:PairL):Int:=if Tm.rankErr rk = 0 then Tm.eqsErr ps else Tm.rankErr rk
set_option maxRecDepth 100000 in
set_option maxHeartbeats 2000000 in
theorem checkBoth_any (rk:List Int) (ps:PairL) (ar a:Option Addr) (cr cap:Nat) (w:World) (hR:Ints w.heap.size w ar rk) (hP:RulesAt w.heap.size w a ps) (hl:ps.length≤maxLen) :
 Calls Tryz.prog 38 #[.slice ar rk.length cr,.slice a ps.length cap] w fun e w'=>e = .returned (.int .i64 (Tm.bothErr rk ps))∧Below w.heap.size w w':=by
 have hl':(ps.length:Int)≤9223372036854775807:=by unfold maxLen at hl;omega
 have hi0:∀ x y W,(Instr.index 88 (.agg #[x,y]) (.int .i64 0)).run Tryz.prog W = .ok x W:=fun _ _ _=>by kernel_rfl
 have hi1:∀ x y W,(Instr.index 88 (.agg #[x,y]) (.int .i64 1)).run Tryz.prog W = .ok y W:=fun _ _ _=>by kernel_rfl
 have hC:=hid (orderCheck_any rk ar cr w hR)
 have HP:=hid hP
 have hB:Hid (Tm.bothErr rk ps = if Tm.rankErr rk = 0 then Tm.eqsErr ps else Tm.rankErr rk):=rfl
 clear hR hP
 by_cases hk:Tm.rankErr rk = 0
 ·rw [if_pos hk] at hB
  rw [hk] at hC
  rw [hB.out]
  clear hk hB
  by_cases h40:40 < ps.length
  ·have h40':(40:Int) < (ps.length:Int):=by omega
   have hE:Hid (Tm.eqsErr ps = 2):=by unfold Tm.eqsErr;rw [if_pos h40];exact hid rfl
   rw [hE.out]
   clear h40 hE
   go_enter Tryz.func38,Tryz.ntmps38
   go_wp2_with (go_at_call 66;refine hC.out.mono ?_;rintro e w ⟨rfl,rfl⟩)
   go_ret
   exact ⟨rfl,Below.refl _ _⟩
  ·have h40':¬ (40:Int) < (ps.length:Int):=by omega
   have h40'':(ps.length:Int)≤40:=by omega
   have hE:Hid (Tm.eqsErr ps = Tm.firstPair ps):=by unfold Tm.eqsErr;rw [if_neg h40];exact hid rfl
   rw [hE.out]
   clear h40 hE
   have Hbad:=hid (fun k h1 h2 h3=>Tm.firstP_bad (ps:=ps) k h1 h2 h3)
   have Hall:=hid (fun h=>Tm.firstP_all (ps:=ps) h)
   go_enter Tryz.func38,Tryz.ntmps38
   go_wp2_with (go_at_call 66;refine hC.out.mono ?_;rintro e w ⟨rfl,rfl⟩)
   go_loopw [21] (fun v wr=>∃ k:Nat,k≤ps.length∧v = .int .i64 (k:Int)∧Hid (∀ j,j < k→Tm.pairErr (ps[j]?.getD ([],[])).1 (ps[j]?.getD ([],[])).2 = 0)∧Below w.heap.size w wr) (fun v _=>ps.length - (intOf v).toNat)
   case atStart=>exact ⟨0,Nat.zero_le _,rfl,fun j hj=>by omega,Below.refl _ _⟩
   case round =>
    obtain ⟨k,hk,rfl,hst,hB⟩:=hrel
    by_cases hlt:k < ps.length
    ·have hlt':(k:Int) < (ps.length:Int):=by omega
     obtain ⟨b,off,rfl,hb,aL,cL,aR,cR,g1,g2,g3,g4,g5,g6,g7,g8⟩:=(HP.out.below hB) k hlt
     have hbad:=hid (Hbad.out k hlt hst.out)
     have hnext:Hid (Tm.pairErr (ps[k]?.getD ([],[])).1 (ps[k]?.getD ([],[])).2 = 0→∀ j,j < k+1→Tm.pairErr (ps[j]?.getD ([],[])).1 (ps[j]?.getD ([],[])).2 = 0):=fun h j hj=>if e:j = k then e ▸ h else hst.out j (by omega)
     have hpe:Hid (Tm.pairErr (ps[k]?.getD ([],[])).1 (ps[k]?.getD ([],[])).2 = if Tm.err (ps[k]?.getD ([],[])).1 = 0 then Tm.err (ps[k]?.getD ([],[])).2 else Tm.err (ps[k]?.getD ([],[])).1):=rfl
     generalize (ps[k]?.getD ([],[])).1 = P at *
     generalize (ps[k]?.getD ([],[])).2 = Q at *
     have hBa:Below wr.heap.size wr (wr.alloc (.cells #[.slice aL P.length cL,.slice aR Q.length cR] 40)):=(Below.refl _ _).alloc (Nat.le_refl _) _
     have bx:=Box2.new wr 40 (.slice aL P.length cL) (.slice aR Q.length cR)
     have y0:=bx.cell0
     have y1:=bx.cell1
     have BBa:=hB.trans (hBa.mono hB.size)
     obtain ⟨W1,hW1⟩:∃ W1,wr.alloc (.cells #[.slice aL P.length cL,.slice aR Q.length cR] 40) = W1:=⟨_,rfl⟩
     rw [hW1] at hBa y0 y1 BBa
     have HW1:=hid hW1
     have hC1:=hid (check_any P aL cL W1 (((g3.mono hB.size).below hBa).mono hBa.size))
     have hC2:=hid (fun W (hW:Below W1.heap.size W1 W)=>check_any Q aR cR W ((((g4.mono hB.size).below (hBa.trans (hW.mono hBa.size)))).mono (Nat.le_trans hBa.size hW.size)))
     clear g3 g4 bx hW1
     by_cases e1:Tm.err P = 0
     ·rw [e1] at hC1
      rw [if_pos e1] at hpe
      by_cases e2:Tm.err Q = 0
      ·rw [e2] at hC2 hpe
       have hn:=hid (hnext.out hpe.out)
       clear e1 e2 hbad hnext hpe Hbad Hall
       go_wp2_with fail
       rw [HW1.out]
       refine wp_loop_rounds 3 ?_
       rw [rounds_succ]
       go_wp2_with (go_at_call 49;refine hC1.out.mono ?_;rintro e w2 ⟨rfl,b2⟩)
       rw [rounds_succ]
       go_wp2_with (go_at_call 49;refine (hC2.out w2 b2).mono ?_;rintro e w3 ⟨rfl,b3⟩)
       rw [rounds_succ]
       go_wp2
       go_roundw
       case rel=>exact ⟨k+1,by omega,by go_num,hn,(BBa.trans (b2.mono BBa.size)).trans (b3.mono (Nat.le_trans BBa.size b2.size))⟩
       case measure=>simp [intOf];omega
      ·have hne:(Tm.err Q != 0) = true:=by simpa using e2
       have hA:=hid ((hbad.out (by rw [hpe.out];exact e2)).trans hpe.out)
       clear e1 e2 hbad hnext hpe Hbad Hall
       generalize Tm.err Q = q at *
       go_wp2_with fail
       rw [HW1.out]
       refine wp_loop_rounds 3 ?_
       rw [rounds_succ]
       go_wp2_with (go_at_call 49;refine hC1.out.mono ?_;rintro e w2 ⟨rfl,b2⟩)
       rw [rounds_succ]
       go_wp2_with (go_at_call 49;refine (hC2.out w2 b2).mono ?_;rintro e w3 ⟨rfl,b3⟩)
       go_ret
       exact ⟨by rw [hA.out];rfl,(BBa.trans (b2.mono BBa.size)).trans (b3.mono (Nat.le_trans BBa.size b2.size))⟩
     ·have hne:(Tm.err P != 0) = true:=by simpa using e1
      rw [if_neg e1] at hpe
      have hA:=hid ((hbad.out (by rw [hpe.out];exact e1)).trans hpe.out)
      clear e1 hbad hnext hpe Hbad Hall hC2
      generalize Tm.err P = q at *
      go_wp2_with fail
      rw [HW1.out]
      refine wp_loop_rounds 3 ?_
      rw [rounds_succ]
      go_wp2_with (go_at_call 49;refine hC1.out.mono ?_;rintro e w2 ⟨rfl,b2⟩)
      go_ret
      exact ⟨by rw [hA.out];rfl,BBa.trans (b2.mono BBa.size)⟩
    ·obtain rfl:k = ps.length:=by omega
     have hA:=hid (Hall.out hst.out)
     clear Hbad Hall
     go_wp2
     go_ret
     exact ⟨by rw [hA.out];rfl,hB⟩
 ·rw [if_neg hk] at hB
  have hne:(Tm.rankErr rk != 0) = true:=by simpa using hk
  rw [hB.out]
  clear hk hB
  generalize Tm.rankErr rk = q at *
  go_enter Tryz.func38,Tryz.ntmps38
  go_wp2_with (go_at_call 66;refine hC.out.mono ?_;rintro e w ⟨rfl,rfl⟩)
  go_ret
  exact ⟨rfl,Below.refl _ _⟩
def Tm.turnErr (rk:List Int) (rs:RuleL) (ps:PairL):Int :=
 if Tm.bothErr rk ps = 0 then (if Tm.fallsErr rk rs = 0 then (if Tm.fallsVal rk rs = true then (if ps.length = 0 then 5 else 0) else 6) else Tm.fallsErr rk rs) else Tm.bothErr rk ps
set_option maxRecDepth 100000 in
set_option maxHeartbeats 2000000 in
theorem checkTurn_any (rk:List Int) (rs:RuleL) (ps:PairL) (ar al a:Option Addr) (cr cl cap:Nat) (w:World) (hR:Ints w.heap.size w ar rk) (hL:RulesAt w.heap.size w al rs) (hP:RulesAt w.heap.size w a ps) (hl:ps.length≤maxLen) :
 Calls Tryz.prog 27 #[.slice ar rk.length cr,.slice al rs.length cl,.slice a ps.length cap] w fun e w'=>e = .returned (.int .i64 (Tm.turnErr rk rs ps))∧Below w.heap.size w w':=by
 have hl':(ps.length:Int)≤9223372036854775807:=by unfold maxLen at hl;omega
 have hC:=hid (checkBoth_any rk ps ar a cr cap w hR hP hl)
 have hF:=hid (fun W (hW:Below w.heap.size w W)=>rulesFalls_any rk rs ar al cr cl W ((hR.below hW).mono hW.size) ((hL.below hW).mono hW.size))
 have hE:Hid (Tm.turnErr rk rs ps = if Tm.bothErr rk ps = 0 then (if Tm.fallsErr rk rs = 0 then (if Tm.fallsVal rk rs = true then (if ps.length = 0 then 5 else 0) else 6) else Tm.fallsErr rk rs) else Tm.bothErr rk ps):=rfl
 rw [hE.out]
 clear hR hL hP hE
 generalize Tm.bothErr rk ps = qb at *
 generalize Tm.fallsErr rk rs = qe at *
 generalize Tm.fallsVal rk rs = qf at *
 by_cases h1:qb = 0
 ·subst h1
  rw [if_pos rfl]
  by_cases h2:qe = 0
  ·subst h2
   rw [if_pos rfl]
   cases qf with
   | true =>
    rw [if_pos rfl]
    by_cases h3:ps.length = 0
    ·have h3':((ps.length:Int) == 0) = true:=len_yes h3
     rw [if_pos h3]
     clear h3
     go_enter Tryz.func27,Tryz.ntmps27
     go_wp2_with fail
     refine hC.out.mono ?_
     rintro e w1 ⟨rfl,b1⟩
     go_wp2_with fail
     refine (hF.out w1 b1).mono ?_
     rintro e w2 ⟨rfl,b2⟩
     go_wp2
     go_ret
     exact ⟨rfl,b1.trans (b2.mono b1.size)⟩
    ·have h3':((ps.length:Int) == 0) = false:=len_no h3
     rw [if_neg h3]
     clear h3
     go_enter Tryz.func27,Tryz.ntmps27
     go_wp2_with fail
     refine hC.out.mono ?_
     rintro e w1 ⟨rfl,b1⟩
     go_wp2_with fail
     refine (hF.out w1 b1).mono ?_
     rintro e w2 ⟨rfl,b2⟩
     go_wp2
     go_ret
     exact ⟨rfl,b1.trans (b2.mono b1.size)⟩
   | false =>
    rw [if_neg (by simp)]
    go_enter Tryz.func27,Tryz.ntmps27
    go_wp2_with fail
    refine hC.out.mono ?_
    rintro e w1 ⟨rfl,b1⟩
    go_wp2_with fail
    refine (hF.out w1 b1).mono ?_
    rintro e w2 ⟨rfl,b2⟩
    go_wp2
    go_ret
    exact ⟨rfl,b1.trans (b2.mono b1.size)⟩
  ·have hne:(qe != 0) = true:=by simpa using h2
   rw [if_neg h2]
   clear h2
   go_enter Tryz.func27,Tryz.ntmps27
   go_wp2_with fail
   refine hC.out.mono ?_
   rintro e w1 ⟨rfl,b1⟩
   go_wp2_with fail
   refine (hF.out w1 b1).mono ?_
   rintro e w2 ⟨rfl,b2⟩
   go_wp2
   go_ret
   exact ⟨rfl,b1.trans (b2.mono b1.size)⟩
 ·have hne:(qb != 0) = true:=by simpa using h1
  rw [if_neg h1]
  clear h1
  go_enter Tryz.func27,Tryz.ntmps27
  go_wp2_with fail
  refine hC.out.mono ?_
  rintro e w1 ⟨rfl,b1⟩
  go_wp2
  go_ret
  exact ⟨rfl,b1⟩
def Tm.formsVal (rs:RuleL) (P Q:List Int):List Int × List Int:=if Tm.joinErr rs P Q = 0 then ((Tm.form rs P).1,(Tm.form rs Q).1) else ([],[])
set_option maxRecDepth 100000 in
set_option maxHeartbeats 2000000 in
theorem forms_any (rs:RuleL) (P Q:List Int) (al aP aQ:Option Addr) (cl cP cQ:Nat) (w:World) (hR:RulesAt w.heap.size w al rs) (hP:Ints w.heap.size w aP P) (hQ:Ints w.heap.size w aQ Q) (p1:P.length≤cP) (p2:cP≤maxLen) (q1:Q.length≤cQ) (q2:cQ≤maxLen) :
 Calls Tryz.prog 28 #[.slice al rs.length cl,.agg #[.slice aP P.length cP,.slice aQ Q.length cQ]] w fun e w'=>∃ v u,e = .returned (.tuple #[v,u,.int .i64 (Tm.joinErr rs P Q)])∧New w.heap.size w' v (Tm.formsVal rs P Q).1∧New w.heap.size w' u (Tm.formsVal rs P Q).2∧Below w.heap.size w w':=by
 obtain ⟨W1,hW1⟩:∃ W1,w.alloc (.cells #[.slice aP P.length cP,.slice aQ Q.length cQ] 40) = W1:=⟨_,rfl⟩
 have hB1:Below w.heap.size w W1:=by rw [← hW1];exact (Below.refl _ _).alloc (Nat.le_refl _) _
 have bx:Box2 W1 w.heap.size 40 (.slice aP P.length cP) (.slice aQ Q.length cQ):=by rw [← hW1];exact Box2.new w _ _ _
 have c0:=bx.cell0
 have C1:=hid (form_any rs P al aP cl cP W1 ((hR.below hB1).mono hB1.size) ((hP.below hB1).mono hB1.size) p1 p2)
 have C2:=hid (fun W (hW:Below W1.heap.size W1 W)=>form_any rs Q al aQ cl cQ W (by have h:=hB1.trans (hW.mono hB1.size);exact (hR.below h).mono h.size) (by have h:=hB1.trans (hW.mono hB1.size);exact (hQ.below h).mono h.size) q1 q2)
 have hE:Hid (Tm.joinErr rs P Q = if (Tm.form rs P).2.2 = 0 then (Tm.form rs Q).2.2 else (Tm.form rs P).2.2):=rfl
 have hV:Hid (Tm.formsVal rs P Q = if Tm.joinErr rs P Q = 0 then ((Tm.form rs P).1,(Tm.form rs Q).1) else ([],[])):=rfl
 have HW1:=hid hW1
 clear hW1 hR hP hQ p1 p2 q1 q2
 generalize Tm.form rs P = f at *
 generalize Tm.form rs Q = g at *
 obtain ⟨x,n,er⟩:=f
 obtain ⟨y,m,er2⟩:=g
 dsimp only at C1 C2 hE hV
 by_cases he:er = 0
 ·subst he
  rw [if_pos rfl] at hE
  by_cases he2:er2 = 0
  ·subst he2
   rw [hE.out,if_pos rfl] at hV
   rw [hE.out,hV.out]
   clear hV hE
   go_enter Tryz.func28,Tryz.ntmps28
   go_wp2_with fail
   rw [HW1.out]
   go_wp2_with fail
   refine C1.out.mono ?_
   rintro e w1 ⟨v1,rfl,n1,b1⟩
   obtain ⟨x1,c1,rfl,_⟩:=New.ints n1
   have c1':=(bx.below b1 bx.lt).cell1
   have N1:=hid n1
   clear C1 n1
   go_wp2_with fail
   refine (C2.out w1 b1).mono ?_
   rintro e w2 ⟨v2,rfl,n2,b2⟩
   obtain ⟨x2,c2,rfl,_⟩:=New.ints n2
   have B2:=b1.trans (b2.mono b1.size)
   have N2:=hid n2
   clear C2 n2 c1'
   go_wp2
   go_ret3
   exact ⟨_,_,rfl,(N1.out.below b2).mono hB1.size,N2.out.mono (Nat.le_trans hB1.size b1.size),hB1.trans (B2.mono hB1.size)⟩
  ·have hne:(er2 != 0) = true:=by simpa using he2
   rw [hE.out,if_neg he2] at hV
   rw [hE.out,hV.out]
   clear hV hE he2
   go_enter Tryz.func28,Tryz.ntmps28
   go_wp2_with fail
   rw [HW1.out]
   go_wp2_with fail
   refine C1.out.mono ?_
   rintro e w1 ⟨v1,rfl,n1,b1⟩
   obtain ⟨x1,c1,rfl,_⟩:=New.ints n1
   have c1':=(bx.below b1 bx.lt).cell1
   clear C1 n1
   go_wp2_with fail
   refine (C2.out w1 b1).mono ?_
   rintro e w2 ⟨v2,rfl,n2,b2⟩
   obtain ⟨x2,c2,rfl,_⟩:=New.ints n2
   have B2:=b1.trans (b2.mono b1.size)
   clear C2 n2 c1'
   go_wp2
   go_ret3
   exact ⟨_,_,rfl,New.nil _ _,New.nil _ _,hB1.trans (B2.mono hB1.size)⟩
 ·rw [if_neg he] at hE
  rw [hE.out,if_neg he] at hV
  have hne:(er != 0) = true:=by simpa using he
  rw [hE.out,hV.out]
  clear hV hE he
  go_enter Tryz.func28,Tryz.ntmps28
  go_wp2_with fail
  rw [HW1.out]
  go_wp2_with fail
  refine C1.out.mono ?_
  rintro e w1 ⟨v1,rfl,n1,b1⟩
  obtain ⟨x1,c1,rfl,_⟩:=New.ints n1
  clear C1 n1
  go_wp2
  go_ret3
  exact ⟨_,_,rfl,New.nil _ _,New.nil _ _,hB1.trans (b1.mono hB1.size)⟩
theorem takeP_snoc {rs:PairL} {k:Nat} (hk:k < rs.length):rs.take (k+1) = rs.take k++[((rs[k]?.getD ([],[])).1,(rs[k]?.getD ([],[])).2)]:=by
 rw [List.take_succ_eq_append_getElem hk,List.getElem?_eq_getElem hk]
 rfl
set_option maxRecDepth 100000 in
set_option maxHeartbeats 4000000 in
theorem ownRules_any {fl:Bool} (eb:Nat) (rs:PairL) (a:Option Addr) (cap:Nat) (w:World) (heb:eb≤w.heap.size) (hR:RulesAt w.heap.size w a rs) (hl:rs.length≤1000) (he:∀ k,k < rs.length→Tm.err (rs[k]?.getD ([],[])).1 = 0∧Tm.err (rs[k]?.getD ([],[])).2 = 0) :
 Calls Tryz.prog 29 #[.slice a rs.length cap] w fun e w'=>∃ v,e = .returned v∧NewX fl 54 w.heap.size eb w' v rs∧Below w.heap.size w w':=by
 have hl':(rs.length:Int)≤1000:=by omega
 have HR:=hid hR
 have He:=hid he
 clear hR he
 go_enter Tryz.func29,Tryz.ntmps29
 go_wp2
 go_loopw [3,8] (fun ov v wr=>∃ k:Nat,k≤rs.length∧v = .int .i64 (k:Int)∧Hid (NewX fl 54 w.heap.size eb wr ov (rs.take k))∧Below w.heap.size w wr) (fun _ v _=>rs.length - (intOf v).toNat)
 case atStart=>exact ⟨0,Nat.zero_le _,rfl,hid (NewX.nil _ _ _ _),Below.refl _ _⟩
 case round =>
  obtain ⟨k,hk,rfl,hN,hB⟩:=hrel
  obtain ⟨va,vc,rfl⟩:=hN.out.slice
  by_cases hlt:k < rs.length
  ·have hlt':(k:Int) < (rs.length:Int):=by omega
   obtain ⟨b,off,rfl,hb,aL,cL,aR,cR,g1,g2,g3,g4,g5,g6,g7,g8⟩:=(HR.out.below hB) k hlt
   obtain ⟨eL,eR⟩:=He.out k hlt
   have hsn:=hid (takeP_snoc hlt)
   have htl:(rs.take k).length≤1000:=by rw [List.length_take];omega
   generalize (rs[k]?.getD ([],[])).1 = P at *
   generalize (rs[k]?.getD ([],[])).2 = Q at *
   generalize rs.take k = ps at *
   obtain ⟨W1,hW1⟩:∃ W1,wr.alloc (.cells #[.slice aL P.length cL,.slice aR Q.length cR] 54) = W1:=⟨_,rfl⟩
   have hBa:Below wr.heap.size wr W1:=by rw [← hW1];exact (Below.refl _ _).alloc (Nat.le_refl _) _
   have bx:Box2 W1 wr.heap.size 54 (.slice aL P.length cL) (.slice aR Q.length cR):=by rw [← hW1];exact Box2.new wr _ _ _
   have HW1:=hid hW1
   have hBd:Below W1.heap.size W1 W1.drew:=below_drewN (Below.refl _ W1) 1
   have hC1:=hid (clone_right P aL cL W1.drew eL (((g3.mono hB.size).below (hBa.trans (hBd.mono hBa.size))).mono (Nat.le_trans hBa.size hBd.size)))
   have hC2:=hid (fun W (hW:Below W1.heap.size W1 W)=>clone_right Q aR cR W eR (((g4.mono hB.size).below (hBa.trans (hW.mono hBa.size))).mono (Nat.le_trans hBa.size hW.size)))
   have hS:=hid (fun W (hW:Below W1.heap.size W1 W)=>(show W.cell? ⟨wr.heap.size,0,none⟩ = some (.slice aL P.length cL)∧W.cell? ⟨wr.heap.size,1,none⟩ = some (.slice aR Q.length cR) from ⟨(bx.below hW bx.lt).cell0,(bx.below hW bx.lt).cell1⟩))
   have hS0:=hS.out W1 (Below.refl _ _)
   have hSd:=hS.out W1.drew hBd
   have hwB:=hB.trans (hBa.mono hB.size)
   have hwd:=hwB.trans (hBd.mono hwB.size)
   clear g3 g4 hW1 eL eR bx
   have hap:=hid (fun v1 w2 (n1:New W1.drew.heap.size w2 v1 P) (b2:Below W1.drew.heap.size W1.drew w2) v2 w3 (n2:New w2.heap.size w3 v2 Q) (b3:Below w2.heap.size w2 w3)=>(show ∃ a1 c1 a2 c2,v1 = .slice a1 P.length c1∧v2 = .slice a2 Q.length c2∧P.length≤c1∧c1≤maxLen∧Q.length≤c2∧c2≤maxLen∧Hid (∀ V:World,V.heap = (w3.alloc (.cells #[v1,v2] 54)).heap→IntR fl eb V a1 P∧IntR fl eb V a2 Q∧NewX fl 54 w.heap.size eb V (.slice va ps.length vc) ps∧V.cell? ⟨w3.heap.size,0,none⟩ = some v1∧V.cell? ⟨w3.heap.size,1,none⟩ = some v2)∧w.heap.size≤w3.heap.size∧Hid (Below w.heap.size w w3) from by
    obtain ⟨a1,c1,e1,i1,m1,m1'⟩:=IntR.new (fl:=fl) (base:=eb) (n1.below b3) (.inr (Nat.le_trans heb hwd.size))
    obtain ⟨a2,c2,e2,i2,m2,m2'⟩:=IntR.new (fl:=fl) (base:=eb) n2 (.inr (Nat.le_trans heb (Nat.le_trans hwd.size b2.size)))
    have hw2:=hwd.trans (b2.mono hwd.size)
    have hw3:=hw2.trans (b3.mono hw2.size)
    have hN3:=((((hN.out.below hBa).below hBd).below b2).below b3)
    refine ⟨a1,c1,a2,c2,e1,e2,m1,m1',m2,m2',hid fun V hV=>?_,hw3.size,hid hw3⟩
    have hk:∀ q,q < w3.heap.size→V.heap[q]? = w3.heap[q]?:=fun q hq=>by rw [hV];exact Below.heap_alloc w3 _ q hq
    have hs:w3.heap.size≤V.heap.size:=by rw [hV];simp
    have hb:V.heap[w3.heap.size]? = some (.cells #[v1,v2] 54 (0,0)):=by rw [hV];exact World.alloc_heap_new w3 _
    exact ⟨i1.keep hs (fun q hq _=>hk q hq),i2.keep hs (fun q hq _=>hk q hq),hN3.keep hs (fun q hq=>hk q (hN3.block hq).2.1) (fun q hq _=>hk q hq),by rw [cell_at hb];rfl,by rw [cell_at hb];rfl⟩))
   have hSx:=hid (fun V w4 (hs:V.cell? ⟨wr.heap.size,0,none⟩ = some (.slice aL P.length cL)∧V.cell? ⟨wr.heap.size,1,none⟩ = some (.slice aR Q.length cR)) (hg:World.grownBy V w4 (Value.slice va ps.length vc).ownBlock)=>(show w4.cell? ⟨wr.heap.size,0,none⟩ = some (.slice aL P.length cL)∧w4.cell? ⟨wr.heap.size,1,none⟩ = some (.slice aR Q.length cR) from by
    have hne:some wr.heap.size≠(Value.slice va ps.length vc).ownBlock:=fun e=>by have:=(hN.out.block e.symm).2.1;omega
    have hlt:wr.heap.size < V.heap.size:=by simpa using lt_of_cell hs.1
    have hbk:=hg.block wr.heap.size hlt hne
    exact ⟨(World.cell?_of_block (a:=⟨wr.heap.size,0,none⟩) hbk).trans hs.1,(World.cell?_of_block (a:=⟨wr.heap.size,1,none⟩) hbk).trans hs.2⟩))
   go_wp2_with fail
   rw [HW1.out]
   go_region_held3 (fun w'=>w'.cell? ⟨wr.heap.size,0,none⟩ = some (.slice aL P.length cL)∧w'.cell? ⟨wr.heap.size,1,none⟩ = some (.slice aR Q.length cR)) (first | assumption | exact hS0 | exact hSd | exact hS2 | exact hS3 | exact hS4 _ | exact hS5) (first
    | (go_at_call_of 47 (Value.slice aL P.length cL);refine hC1.out.mono ?_;rintro e w2 ⟨v1,rfl,n1,b2⟩;have hb2:=hBd.trans (b2.mono hBd.size);have hS2:=hS.out w2 hb2)
    | (go_at_call_of 47 (Value.slice aR Q.length cR);refine (hC2.out w2 hb2).mono ?_;rintro e w3 ⟨v2,rfl,n2,b3⟩;have hb3:=hb2.trans (b3.mono hb2.size);have hS3:=hS.out w3 hb3;have hS4:=(fun o=>hS.out (w3.alloc o) (hb3.alloc hb3.size o));obtain ⟨a1,c1,a2,c2,rfl,rfl,m1,m1',m2,m2',hV,hsz,hw3⟩:=hap.out v1 w2 n1 b2 v2 w3 n2 b3)
    | (refine step_app_r _ (by rfl) _ _ (by rfl) w.heap.size eb heb (.slice va ps.length vc) ps (by rfl) (hV.out _ (by rfl)).2.2.1 w3.heap.size a1 a2 P Q c1 c2 (by rfl) (hV.out _ (by rfl)).2.2.2.1 (hV.out _ (by rfl)).2.2.2.2 (hV.out _ (by rfl)).1 (hV.out _ (by rfl)).2.1 m1 m1' m2 m2' (by omega) (by simp;omega) ?_;intro g4 c4 w4 hN4 hg4 b4;have hS5:=hSx.out _ w4 (hS4 _) hg4))
   have hw4:Hid (Below w.heap.size w w4):=by first | exact (hw3.out.alloc hsz _).trans b4 | exact (below_drewN (hw3.out.alloc hsz _) 1).trans b4
   have HN4:=hid hN4
   clear b4 hg4 hS0 hSd hS2 hS3 hS4 hS5 hSx hap hC1 hC2 hS n1 n2 b2 b3 hb2 hb3 hN4
   go_wp2
   go_roundw
   case rel=>exact ⟨k+1,by omega,by go_num,by rw [hsn.out];simpa [Hid] using HN4,hw4.out⟩
   case measure=>simp [intOf];omega
  ·obtain rfl:k = rs.length:=by omega
   rw [List.take_length] at hN
   rw [List.take_length]
   go_wp2
   go_ret
   exact ⟨_,rfl,hN.out,hB⟩
set_option maxRecDepth 100000 in
set_option maxHeartbeats 4000000 in
theorem ownPairs_any {fl:Bool} (eb:Nat) (rs:PairL) (a:Option Addr) (cap:Nat) (w:World) (heb:eb≤w.heap.size) (hR:RulesAt w.heap.size w a rs) (hl:rs.length≤1000) (he:∀ k,k < rs.length→Tm.err (rs[k]?.getD ([],[])).1 = 0∧Tm.err (rs[k]?.getD ([],[])).2 = 0) :
 Calls Tryz.prog 30 #[.slice a rs.length cap] w fun e w'=>∃ v,e = .returned v∧NewX fl 40 w.heap.size eb w' v rs∧Below w.heap.size w w':=by
 have hl':(rs.length:Int)≤1000:=by omega
 have HR:=hid hR
 have He:=hid he
 clear hR he
 go_enter Tryz.func30,Tryz.ntmps30
 go_wp2
 go_loopw [3,8] (fun ov v wr=>∃ k:Nat,k≤rs.length∧v = .int .i64 (k:Int)∧Hid (NewX fl 40 w.heap.size eb wr ov (rs.take k))∧Below w.heap.size w wr) (fun _ v _=>rs.length - (intOf v).toNat)
 case atStart=>exact ⟨0,Nat.zero_le _,rfl,hid (NewX.nil _ _ _ _),Below.refl _ _⟩
 case round =>
  obtain ⟨k,hk,rfl,hN,hB⟩:=hrel
  obtain ⟨va,vc,rfl⟩:=hN.out.slice
  by_cases hlt:k < rs.length
  ·have hlt':(k:Int) < (rs.length:Int):=by omega
   obtain ⟨b,off,rfl,hb,aL,cL,aR,cR,g1,g2,g3,g4,g5,g6,g7,g8⟩:=(HR.out.below hB) k hlt
   obtain ⟨eL,eR⟩:=He.out k hlt
   have hsn:=hid (takeP_snoc hlt)
   have htl:(rs.take k).length≤1000:=by rw [List.length_take];omega
   generalize (rs[k]?.getD ([],[])).1 = P at *
   generalize (rs[k]?.getD ([],[])).2 = Q at *
   generalize rs.take k = ps at *
   obtain ⟨W1,hW1⟩:∃ W1,wr.alloc (.cells #[.slice aL P.length cL,.slice aR Q.length cR] 40) = W1:=⟨_,rfl⟩
   have hBa:Below wr.heap.size wr W1:=by rw [← hW1];exact (Below.refl _ _).alloc (Nat.le_refl _) _
   have bx:Box2 W1 wr.heap.size 40 (.slice aL P.length cL) (.slice aR Q.length cR):=by rw [← hW1];exact Box2.new wr _ _ _
   have HW1:=hid hW1
   have hBd:Below W1.heap.size W1 W1.drew:=below_drewN (Below.refl _ W1) 1
   have hC1:=hid (clone_right P aL cL W1.drew eL (((g3.mono hB.size).below (hBa.trans (hBd.mono hBa.size))).mono (Nat.le_trans hBa.size hBd.size)))
   have hC2:=hid (fun W (hW:Below W1.heap.size W1 W)=>clone_right Q aR cR W eR (((g4.mono hB.size).below (hBa.trans (hW.mono hBa.size))).mono (Nat.le_trans hBa.size hW.size)))
   have hS:=hid (fun W (hW:Below W1.heap.size W1 W)=>(show W.cell? ⟨wr.heap.size,0,none⟩ = some (.slice aL P.length cL)∧W.cell? ⟨wr.heap.size,1,none⟩ = some (.slice aR Q.length cR) from ⟨(bx.below hW bx.lt).cell0,(bx.below hW bx.lt).cell1⟩))
   have hS0:=hS.out W1 (Below.refl _ _)
   have hSd:=hS.out W1.drew hBd
   have hwB:=hB.trans (hBa.mono hB.size)
   have hwd:=hwB.trans (hBd.mono hwB.size)
   clear g3 g4 hW1 eL eR bx
   have hap:=hid (fun v1 w2 (n1:New W1.drew.heap.size w2 v1 P) (b2:Below W1.drew.heap.size W1.drew w2) v2 w3 (n2:New w2.heap.size w3 v2 Q) (b3:Below w2.heap.size w2 w3)=>(show ∃ a1 c1 a2 c2,v1 = .slice a1 P.length c1∧v2 = .slice a2 Q.length c2∧P.length≤c1∧c1≤maxLen∧Q.length≤c2∧c2≤maxLen∧Hid (∀ V:World,V.heap = (w3.alloc (.cells #[v1,v2] 40)).heap→IntR fl eb V a1 P∧IntR fl eb V a2 Q∧NewX fl 40 w.heap.size eb V (.slice va ps.length vc) ps∧V.cell? ⟨w3.heap.size,0,none⟩ = some v1∧V.cell? ⟨w3.heap.size,1,none⟩ = some v2)∧w.heap.size≤w3.heap.size∧Hid (Below w.heap.size w w3) from by
    obtain ⟨a1,c1,e1,i1,m1,m1'⟩:=IntR.new (fl:=fl) (base:=eb) (n1.below b3) (.inr (Nat.le_trans heb hwd.size))
    obtain ⟨a2,c2,e2,i2,m2,m2'⟩:=IntR.new (fl:=fl) (base:=eb) n2 (.inr (Nat.le_trans heb (Nat.le_trans hwd.size b2.size)))
    have hw2:=hwd.trans (b2.mono hwd.size)
    have hw3:=hw2.trans (b3.mono hw2.size)
    have hN3:=((((hN.out.below hBa).below hBd).below b2).below b3)
    refine ⟨a1,c1,a2,c2,e1,e2,m1,m1',m2,m2',hid fun V hV=>?_,hw3.size,hid hw3⟩
    have hk:∀ q,q < w3.heap.size→V.heap[q]? = w3.heap[q]?:=fun q hq=>by rw [hV];exact Below.heap_alloc w3 _ q hq
    have hs:w3.heap.size≤V.heap.size:=by rw [hV];simp
    have hb:V.heap[w3.heap.size]? = some (.cells #[v1,v2] 40 (0,0)):=by rw [hV];exact World.alloc_heap_new w3 _
    exact ⟨i1.keep hs (fun q hq _=>hk q hq),i2.keep hs (fun q hq _=>hk q hq),hN3.keep hs (fun q hq=>hk q (hN3.block hq).2.1) (fun q hq _=>hk q hq),by rw [cell_at hb];rfl,by rw [cell_at hb];rfl⟩))
   have hSx:=hid (fun V w4 (hs:V.cell? ⟨wr.heap.size,0,none⟩ = some (.slice aL P.length cL)∧V.cell? ⟨wr.heap.size,1,none⟩ = some (.slice aR Q.length cR)) (hg:World.grownBy V w4 (Value.slice va ps.length vc).ownBlock)=>(show w4.cell? ⟨wr.heap.size,0,none⟩ = some (.slice aL P.length cL)∧w4.cell? ⟨wr.heap.size,1,none⟩ = some (.slice aR Q.length cR) from by
    have hne:some wr.heap.size≠(Value.slice va ps.length vc).ownBlock:=fun e=>by have:=(hN.out.block e.symm).2.1;omega
    have hlt:wr.heap.size < V.heap.size:=by simpa using lt_of_cell hs.1
    have hbk:=hg.block wr.heap.size hlt hne
    exact ⟨(World.cell?_of_block (a:=⟨wr.heap.size,0,none⟩) hbk).trans hs.1,(World.cell?_of_block (a:=⟨wr.heap.size,1,none⟩) hbk).trans hs.2⟩))
   go_wp2_with fail
   rw [HW1.out]
   go_region_held3 (fun w'=>w'.cell? ⟨wr.heap.size,0,none⟩ = some (.slice aL P.length cL)∧w'.cell? ⟨wr.heap.size,1,none⟩ = some (.slice aR Q.length cR)) (first | assumption | exact hS0 | exact hSd | exact hS2 | exact hS3 | exact hS4 _ | exact hS5) (first
    | (go_at_call_of 47 (Value.slice aL P.length cL);refine hC1.out.mono ?_;rintro e w2 ⟨v1,rfl,n1,b2⟩;have hb2:=hBd.trans (b2.mono hBd.size);have hS2:=hS.out w2 hb2)
    | (go_at_call_of 47 (Value.slice aR Q.length cR);refine (hC2.out w2 hb2).mono ?_;rintro e w3 ⟨v2,rfl,n2,b3⟩;have hb3:=hb2.trans (b3.mono hb2.size);have hS3:=hS.out w3 hb3;have hS4:=(fun o=>hS.out (w3.alloc o) (hb3.alloc hb3.size o));obtain ⟨a1,c1,a2,c2,rfl,rfl,m1,m1',m2,m2',hV,hsz,hw3⟩:=hap.out v1 w2 n1 b2 v2 w3 n2 b3)
    | (refine step_app_p _ (by rfl) _ _ (by rfl) w.heap.size eb heb (.slice va ps.length vc) ps (by rfl) (hV.out _ (by rfl)).2.2.1 w3.heap.size a1 a2 P Q c1 c2 (by rfl) (hV.out _ (by rfl)).2.2.2.1 (hV.out _ (by rfl)).2.2.2.2 (hV.out _ (by rfl)).1 (hV.out _ (by rfl)).2.1 m1 m1' m2 m2' (by omega) (by simp;omega) ?_;intro g4 c4 w4 hN4 hg4 b4;have hS5:=hSx.out _ w4 (hS4 _) hg4))
   have hw4:Hid (Below w.heap.size w w4):=by first | exact (hw3.out.alloc hsz _).trans b4 | exact (below_drewN (hw3.out.alloc hsz _) 1).trans b4
   have HN4:=hid hN4
   clear b4 hg4 hS0 hSd hS2 hS3 hS4 hS5 hSx hap hC1 hC2 hS n1 n2 b2 b3 hb2 hb3 hN4
   go_wp2
   go_roundw
   case rel=>exact ⟨k+1,by omega,by go_num,by rw [hsn.out];simpa [Hid] using HN4,hw4.out⟩
   case measure=>simp [intOf];omega
  ·obtain rfl:k = rs.length:=by omega
   rw [List.take_length] at hN
   rw [List.take_length]
   go_wp2
   go_ret
   exact ⟨_,rfl,hN.out,hB⟩
set_option maxRecDepth 100000 in
theorem foreignC_any (s:Int) (w:World):Calls Tryz.prog 91 #[.int .i64 s] w fun e w'=>e = .returned (.bool (foreignB s))∧w' = w:=by
 unfold foreignB
 go_enter Tryz.func91,Tryz.ntmps91
 go_wp2
 go_ret
 exact ⟨rfl,rfl⟩
set_option maxRecDepth 100000 in
set_option maxHeartbeats 400000 in
theorem indexFC_any (zs:List Int) (a:Option Addr) (cap:Nat) (w:World) (hI:Ints w.heap.size w a zs) (hm:zs.length≤maxLen) :
 Calls Tryz.prog 119 #[.slice a zs.length cap,.func (.func 91) #[] #[]] w fun e w'=>∃ k:Int,e = .returned (.int .i64 k)∧decide (0≤k) = zs.any (fun s=>foreignB s)∧w' = w:=by
 unfold maxLen at hm
 have hF:=fun s=>foreignC_any s w
 go_enter Tryz.func119,Tryz.ntmps119
 go_wp2
 go_loop [8] (fun i=>∃ k:Nat,k≤zs.length∧i = .int .i64 (k:Int)∧(zs.take k).any (fun s=>foreignB s) = false) (fun i=>zs.length - (intOf i).toNat)
 case atStart=>exact ⟨0,Nat.zero_le _,rfl,by simp⟩
 case round =>
  obtain ⟨k,hk,rfl,hno⟩:=hrel
  by_cases hlt:k < zs.length
  ·have hlt':(k:Int) < (zs.length:Int):=by omega
   obtain ⟨b,off,rfl,hb,hc⟩:=hI.at (by omega)
   have hck:=hc k hlt
   have hsn:=hid (any_snoc (p:=fun s=>foreignB s) hlt hno)
   have hye:=hid (any_yes (p:=fun s=>foreignB s) hlt)
   have hCk:=hid (hF (zs[k]?.getD 0))
   clear hc hI hno
   generalize zs[k]?.getD 0 = s at *
   cases hq:(foreignB s) with
   | true =>
    rw [hq] at hCk
    have Hy:=hid (hye.out hq)
    clear hq hsn
    go_wp2_with (go_at_call 91;refine hCk.out.mono ?_;rintro e w ⟨rfl,rfl⟩)
    go_ret
    exact ⟨_,rfl,by rw [Hy.out];simp,rfl⟩
   | false =>
    rw [hq] at hCk
    have Hn:=hid (hsn.out hq)
    clear hq hye
    go_wp2_with (go_at_call 91;refine hCk.out.mono ?_;rintro e w ⟨rfl,rfl⟩)
    go_round
    case rel=>exact ⟨k+1,by omega,by go_num,Hn.out⟩
    case measure=>simp [intOf];omega
  ·obtain rfl:k = zs.length:=by omega
   rw [List.take_length] at hno
   have hn:=hid hno
   clear hno
   go_wp2
   go_ret
   exact ⟨-1,rfl,by rw [hn.out];rfl,rfl⟩
set_option maxHeartbeats 400000 in
theorem containsFC_any (zs:List Int) (a:Option Addr) (cap:Nat) (w:World) (hI:Ints w.heap.size w a zs) (hm:zs.length≤maxLen) :
 Calls Tryz.prog 92 #[.slice a zs.length cap,.func (.func 91) #[] #[]] w fun e w'=>e = .returned (.bool (zs.any (fun s=>foreignB s)))∧w' = w:=by
 have hC:=indexFC_any zs a cap w hI hm
 go_enter Tryz.func92,Tryz.ntmps92
 go_wp2_with fail
 refine hC.mono ?_
 rintro e w ⟨k,rfl,hk,rfl⟩
 have Hk:=hid hk
 clear hk hC
 go_wp2
 go_ret
 exact ⟨ret_bool Hk.out,rfl⟩
theorem results_aggR {fn:Func} {tmps:Array Value} {w:World} {a b B:Nat} {x y:Value} (h:fn.results = #[.cell a 54,.tmp b]) (ha:tmps.getD a undef = .pointer (some ⟨B,0,none⟩)) (hb:Box2 w B 54 x y):(results fn tmps).run Tryz.prog w = .ok (.tuple #[.agg #[x,y],tmps.getD b undef]) w:=by
 have ha':tmps[a]?.getD undef = .pointer (some ⟨B,0,none⟩):=by rw [← ha];simp
 simp only [results,h]
 simp [go_sem,ha',hb.cell0,hb.cell1]
theorem New.past2 {base B i:Nat} {W:World} {v x:Value} {zs:List Int} (h:New base W v zs) (hb:B < base):New base (W.setCell ⟨B,i,none⟩ x) v zs :=
 ⟨h.1,h.2.elim .inl fun ⟨g,c,cur,h1,h2,h3,h4⟩=>.inr ⟨g,c,cur,h1,h2,(Below.heap_setCell W ⟨B,i,none⟩ x g (show g≠B by omega)).trans h3,h4⟩⟩
def Tm.plErr (P:List Int):Int:=if (Tm.plain P).any foreignB = true then 3 else 0
def Tm.plVal (P Q:List Int):List Int × List Int:=if Tm.plErr P = 0 then (Tm.plain P,Tm.plain2 P Q) else ([],[])
set_option maxRecDepth 100000 in
set_option maxHeartbeats 2000000 in
theorem plainC_any (P Q:List Int) (aP aQ:Option Addr) (cP cQ:Nat) (w:World) (eP:Tm.err P = 0) (eQ:Tm.err Q = 0) (hP:Ints w.heap.size w aP P) (hQ:Ints w.heap.size w aQ Q) :
 Calls Tryz.prog 60 #[.agg #[.slice aP P.length cP,.slice aQ Q.length cQ]] w fun e w'=>∃ v u,e = .returned (.tuple #[.agg #[v,u],.int .i64 (Tm.plErr P)])∧New w.heap.size w' v (Tm.plVal P Q).1∧New w.heap.size w' u (Tm.plVal P Q).2∧Below w.heap.size w w':=by
 have lP:=Tm.err_len eP
 have lQ:=Tm.err_len eQ
 obtain ⟨W3,hW3⟩:∃ W3,((w.alloc (.cells #[.slice aP P.length cP,.slice aQ Q.length cQ] 88)).alloc (.cells #[.slice none 0 0,.slice none 0 0] 54)).alloc (.cells #[.slice aP P.length cP,.slice aQ Q.length cQ] 35) = W3:=⟨_,rfl⟩
 have hB3:Below w.heap.size w W3:=by rw [← hW3];exact (((Below.refl _ w).alloc (Nat.le_refl _) _).alloc (by simp) _).alloc (by simp;omega) _
 have hs3:W3.heap.size = w.heap.size+1+1+1:=by rw [← hW3];simp
 have bx:Box2 W3 (w.heap.size+1) 54 (.slice none 0 0) (.slice none 0 0):=by
  rw [← hW3]
  have h:=Box2.new (w.alloc (.cells #[.slice aP P.length cP,.slice aQ Q.length cQ] 88)) 54 (.slice none 0 0) (.slice none 0 0)
  rw [World.size_alloc] at h
  exact h.kept (World.grownBy_alloc _ _ none) (by simp)
 have blk:W3.heap[w.heap.size+1+1]? = some (.cells #[.slice aP P.length cP,.slice aQ Q.length cQ] 35 (0,0)):=by
  rw [← hW3]
  have h:=World.alloc_heap_new ((w.alloc (.cells #[.slice aP P.length cP,.slice aQ Q.length cQ] 88)).alloc (.cells #[.slice none 0 0,.slice none 0 0] 54)) (.cells #[.slice aP P.length cP,.slice aQ Q.length cQ] 35)
  simpa only [World.size_alloc] using h
 have hC:=hid (plain_two P Q aP aQ cP cQ (w.heap.size+1+1) W3 (by omega) (by omega) (Tm.known8 eP) (Tm.known6 eP) (Tm.known8 eQ) (Tm.known6 eQ) ((cell_at blk 0).trans rfl) ((cell_at blk 1).trans rfl) ((hP.below hB3).mono hB3.size) ((hQ.below hB3).mono hB3.size))
 have hE:Hid (Tm.plErr P = if (Tm.plain P).any foreignB = true then 3 else 0):=rfl
 have hV:Hid (Tm.plVal P Q = if Tm.plErr P = 0 then (Tm.plain P,Tm.plain2 P Q) else ([],[])):=rfl
 have lp:(Tm.plain P).length≤30:=by have:(Tm.plain P).length = P.length:=Tm.plainTo_length _ _ _;omega
 have HW3:=hid hW3
 have c0:(w.alloc (.cells #[.slice aP P.length cP,.slice aQ Q.length cQ] 88)).cell? ⟨w.heap.size,0,none⟩ = some (.slice aP P.length cP):=(cell_at (World.alloc_heap_new w _) 0).trans rfl
 have c1:(w.alloc (.cells #[.slice aP P.length cP,.slice aQ Q.length cQ] 88)).cell? ⟨w.heap.size,1,none⟩ = some (.slice aQ Q.length cQ):=(cell_at (World.alloc_heap_new w _) 1).trans rfl
 clear hW3 hP hQ blk eP eQ
 generalize Tm.plain P = pP at *
 generalize Tm.plain2 P Q = pQ at *
 have hCf:=hid (fun W a c (h:Ints W.heap.size W a pP)=>containsFC_any pP a c W h (by unfold maxLen;omega))
 change Hid (∀ (W:World) (a:Option Addr) (c:Nat),Ints W.heap.size W a pP→Calls _ _ _ W fun e w'=>e = .returned (.bool (pP.any foreignB))∧w' = W) at hCf
 generalize pP.any foreignB = fb at *
 cases fb with
 | true =>
  rw [if_pos rfl] at hE
  rw [hE.out,if_neg (by decide)] at hV
  rw [hE.out,hV.out]
  clear hE hV
  go_enter Tryz.func60,Tryz.ntmps60
  go_wp2_with fail
  rw [HW3.out]
  refine hC.out.mono ?_
  rintro e w4 ⟨v4,rfl,hN4,b4⟩
  obtain ⟨g,cp,u0,u1,rfl,hg,z0,z1,n0,n1⟩:=NewS.two hN4
  obtain ⟨x8,c8,rfl,i8,_⟩:=New.ints n0
  obtain ⟨x9,c9,rfl,_⟩:=New.ints n1
  have B4:=hB3.trans (b4.mono hB3.size)
  have q4:Box2 w4 (w.heap.size+1) 54 (.slice none 0 0) (.slice none 0 0):=bx.below b4 bx.lt
  have k0:=q4.cell0
  have k1:=q4.cell1
  have f0:=q4.frozen 0
  have f1:=q4.frozen 1
  have k1':=fun v=>(q4.set0 v).cell1
  have f1':=fun v=>(q4.set0 v).frozen 1
  have N0:=hid n0
  have N1:=hid n1
  have hgw:w.heap.size+1 < g:=by omega
  have hgs:w.heap.size+1 < W3.heap.size:=by omega
  clear hC hN4 n0 n1 b4
  go_wp2_with fail
  refine (hCf.out w4 x8 c8 i8).mono ?_
  rintro e w4 ⟨rfl,rfl⟩
  clear hCf
  go_wp2
  refine bodyPost_ret (results_aggR rfl rfl ((q4.set0 _).set1 _)) rfl ?_
  exact ⟨_,_,rfl,New.nil _ _,New.nil _ _,(B4.setCell (p:=⟨w.heap.size+1,0,none⟩) (by show w.heap.size≤w.heap.size+1;omega) _).setCell (p:=⟨w.heap.size+1,1,none⟩) (by show w.heap.size≤w.heap.size+1;omega) _⟩
 | false =>
  rw [if_neg (by simp)] at hE
  rw [hE.out,if_pos rfl] at hV
  rw [hE.out,hV.out]
  clear hE hV
  go_enter Tryz.func60,Tryz.ntmps60
  go_wp2_with fail
  rw [HW3.out]
  refine hC.out.mono ?_
  rintro e w4 ⟨v4,rfl,hN4,b4⟩
  obtain ⟨g,cp,u0,u1,rfl,hg,z0,z1,n0,n1⟩:=NewS.two hN4
  obtain ⟨x8,c8,rfl,i8,_⟩:=New.ints n0
  obtain ⟨x9,c9,rfl,_⟩:=New.ints n1
  have B4:=hB3.trans (b4.mono hB3.size)
  have q4:Box2 w4 (w.heap.size+1) 54 (.slice none 0 0) (.slice none 0 0):=bx.below b4 bx.lt
  have k0:=q4.cell0
  have k1:=q4.cell1
  have f0:=q4.frozen 0
  have f1:=q4.frozen 1
  have k1':=fun v=>(q4.set0 v).cell1
  have f1':=fun v=>(q4.set0 v).frozen 1
  have N0:=hid n0
  have N1:=hid n1
  have hgw:w.heap.size+1 < g:=by omega
  have hgs:w.heap.size+1 < W3.heap.size:=by omega
  clear hC hN4 n0 n1 b4
  go_wp2_with fail
  refine (hCf.out w4 x8 c8 i8).mono ?_
  rintro e w4 ⟨rfl,rfl⟩
  clear hCf
  go_wp2
  go_region
  all_goals
   go_wp2
   refine bodyPost_ret (results_aggR rfl rfl ((q4.set0 _).set1 _)) rfl ?_
   refine ⟨_,_,rfl,?_,?_,below_drewN ((B4.setCell (p:=⟨w.heap.size+1,0,none⟩) (by show w.heap.size≤w.heap.size+1;omega) _).setCell (p:=⟨w.heap.size+1,1,none⟩) (by show w.heap.size≤w.heap.size+1;omega) _) 1⟩
   ·exact ((N0.out.past2 hgs).past2 hgs).mono (by omega)
   ·exact ((N1.out.past2 hgs).past2 hgs).mono (by omega)
def Tm.dir (rk P Q:List Int):Int × List Int × List Int:=if Tm.aboveVal rk P Q = true then (Tm.plErr P,Tm.plVal P Q) else if Tm.aboveVal rk Q P = true then (Tm.plErr Q,Tm.plVal Q P) else (6,[],[])
set_option maxRecDepth 100000 in
set_option maxHeartbeats 2000000 in
theorem directed_any (rk P Q:List Int) (ar aP aQ:Option Addr) (cr cP cQ:Nat) (w:World) (hk:Tm.rankErr rk = 0) (eP:Tm.err P = 0) (eQ:Tm.err Q = 0) (hR:Ints w.heap.size w ar rk) (hP:Ints w.heap.size w aP P) (hQ:Ints w.heap.size w aQ Q) (p1:P.length≤cP) (p2:cP≤maxLen) (q1:Q.length≤cQ) (q2:cQ≤maxLen) :
 Calls Tryz.prog 32 #[.slice ar rk.length cr,.slice aP P.length cP,.slice aQ Q.length cQ] w fun e w'=>∃ v u,e = .returned (.tuple #[.agg #[v,u],.int .i64 (Tm.dir rk P Q).1])∧New w.heap.size w' v (Tm.dir rk P Q).2.1∧New w.heap.size w' u (Tm.dir rk P Q).2.2∧Below w.heap.size w w':=by
 obtain ⟨W2,hW2⟩:∃ W2,(w.alloc (.cells #[.slice none 0 0,.slice none 0 0] 54)).alloc (.cells #[.slice aP P.length cP,.slice aQ Q.length cQ,.slice aQ Q.length cQ,.slice aP P.length cP] 88) = W2:=⟨_,rfl⟩
 have hB2:Below w.heap.size w W2:=by rw [← hW2];exact ((Below.refl _ w).alloc (Nat.le_refl _) _).alloc (by simp) _
 have hs2:W2.heap.size = w.heap.size+1+1:=by rw [← hW2];simp
 have bx:Box2 W2 w.heap.size 54 (.slice none 0 0) (.slice none 0 0):=by
  rw [← hW2]
  exact (Box2.new w _ _ _).kept (World.grownBy_alloc _ _ none) (by simp)
 have blk:W2.heap[w.heap.size+1]? = some (.cells #[.slice aP P.length cP,.slice aQ Q.length cQ,.slice aQ Q.length cQ,.slice aP P.length cP] 88 (0,0)):=by
  rw [← hW2]
  have h:=World.alloc_heap_new (w.alloc (.cells #[.slice none 0 0,.slice none 0 0] 54)) (.cells #[.slice aP P.length cP,.slice aQ Q.length cQ,.slice aQ Q.length cQ,.slice aP P.length cP] 88)
  simpa only [World.size_alloc] using h
 have hA1:=hid (fun W (hW:Below w.heap.size w W)=>orderAbove_any rk P Q ar aP aQ cr cP cQ W ((hR.below hW).mono hW.size) ((hP.below hW).mono hW.size) ((hQ.below hW).mono hW.size) p1 p2 q1 q2)
 have hA2:=hid (fun W (hW:Below w.heap.size w W)=>orderAbove_any rk Q P ar aQ aP cr cQ cP W ((hR.below hW).mono hW.size) ((hQ.below hW).mono hW.size) ((hP.below hW).mono hW.size) q1 q2 p1 p2)
 rw [Tm.aboveErr_of hk eP eQ] at hA1
 rw [Tm.aboveErr_of hk eQ eP] at hA2
 have hL1:=hid (fun W (hW:Below w.heap.size w W)=>plainC_any P Q aP aQ cP cQ W eP eQ ((hP.below hW).mono hW.size) ((hQ.below hW).mono hW.size))
 have hL2:=hid (fun W (hW:Below w.heap.size w W)=>plainC_any Q P aQ aP cQ cP W eQ eP ((hQ.below hW).mono hW.size) ((hP.below hW).mono hW.size))
 have hD:Hid (Tm.dir rk P Q = if Tm.aboveVal rk P Q = true then (Tm.plErr P,Tm.plVal P Q) else if Tm.aboveVal rk Q P = true then (Tm.plErr Q,Tm.plVal Q P) else (6,[],[])):=rfl
 have HW2:=hid hW2
 have HK:=hid (fun W (hW:Below W2.heap.size W2 W)=>(show W.cell? ⟨w.heap.size+1,0,none⟩ = some (.slice aP P.length cP)∧W.cell? ⟨w.heap.size+1,1,none⟩ = some (.slice aQ Q.length cQ)∧W.cell? ⟨w.heap.size+1,2,none⟩ = some (.slice aQ Q.length cQ)∧W.cell? ⟨w.heap.size+1,3,none⟩ = some (.slice aP P.length cP)∧Box2 W w.heap.size 54 (.slice none 0 0) (.slice none 0 0) from by
  have hb:=(hW.block (w.heap.size+1) (by omega)).trans blk
  exact ⟨(cell_at hb 0).trans rfl,(cell_at hb 1).trans rfl,(cell_at hb 2).trans rfl,(cell_at hb 3).trans rfl,bx.below hW bx.lt⟩))
 obtain ⟨k0,k1,k2,k3,_⟩:=HK.out W2 (Below.refl _ _)
 clear hW2 hR hP hQ p1 p2 q1 q2 blk bx hk eP eQ
 generalize Tm.aboveVal rk P Q = qa at *
 generalize Tm.aboveVal rk Q P = qb at *
 generalize Tm.plErr P = e1 at *
 generalize Tm.plErr Q = e2 at *
 generalize Tm.plVal P Q = v1 at *
 generalize Tm.plVal Q P = v2 at *
 obtain ⟨v1a,v1b⟩:=v1
 obtain ⟨v2a,v2b⟩:=v2
 dsimp only at hL1 hL2 hD
 cases qa with
 | true =>
  rw [if_pos rfl] at hD
  rw [hD.out]
  clear hD hA2 hL2
  go_enter Tryz.func32,Tryz.ntmps32
  go_wp2_with fail
  rw [HW2.out]
  refine wp_loop_rounds 3 ?_
  rw [rounds_succ]
  obtain ⟨W3,hW3⟩:∃ V,W2.alloc (.cells #[.slice aP P.length cP,.slice aQ Q.length cQ] 88) = V:=⟨_,rfl⟩
  have bW3:Below W2.heap.size W2 W3:=by rw [← hW3];exact (Below.refl _ _).alloc (Nat.le_refl _) _
  have xW3:Box2 W3 W2.heap.size 88 (.slice aP P.length cP) (.slice aQ Q.length cQ):=by rw [← hW3];exact Box2.new W2 _ _ _
  have z0W3:=xW3.cell0
  have z1W3:=xW3.cell1
  rw [hs2] at xW3 z0W3 z1W3
  have BW3:=(Below.refl W2.heap.size W2).trans (bW3.mono (Below.refl W2.heap.size W2).size)
  have BWW3:=hB2.trans (BW3.mono hB2.size)
  have HVW3:=hid hW3
  clear hW3
  go_wp2_with fail
  rw [HVW3.out]
  refine (hA1.out W3 BWW3).mono ?_
  rintro e w4 ⟨rfl,b4⟩
  have B4:=BW3.trans (b4.mono BW3.size)
  have BW4:=BWW3.trans (b4.mono BWW3.size)
  have y0:=(xW3.below b4 xW3.lt).cell0
  have y1:=(xW3.below b4 xW3.lt).cell1
  have hC:=hid (hL1.out w4 BW4)
  go_wp2_with fail
  refine hC.out.mono ?_
  rintro e w5 ⟨v,u,rfl,n1,n2,b5⟩
  obtain ⟨x1,d1,rfl,_⟩:=New.ints n1
  obtain ⟨x2,d2,rfl,_⟩:=New.ints n2
  have B5:=B4.trans (b5.mono B4.size)
  have q5:=(HK.out w5 B5).2.2.2.2
  have j0:=q5.cell0
  have j1:=q5.cell1
  have f0:=q5.frozen 0
  have f1:=q5.frozen 1
  have j1':=fun v=>(q5.set0 v).cell1
  have f1':=fun v=>(q5.set0 v).frozen 1
  have N1:=hid n1
  have N2:=hid n2
  have BW5:=BW4.trans (b5.mono BW4.size)
  have hlt:w.heap.size < w4.heap.size:=by have:=B4.size;omega
  clear n1 n2 hC
  go_wp2
  refine bodyPost_ret (results_aggR (a:=6) (b:=7) (B:=w.heap.size) Tryz.results32 rfl ((q5.set0 _).set1 _)) rfl ?_
  refine ⟨_,_,rfl,?_,?_,(BW5.setCell (p:=⟨w.heap.size,0,none⟩) (Nat.le_refl _) _).setCell (p:=⟨w.heap.size,1,none⟩) (Nat.le_refl _) _⟩
  ·exact ((N1.out.past2 hlt).past2 hlt).mono (by omega)
  ·exact ((N2.out.past2 hlt).past2 hlt).mono (by omega)
 | false =>
  rw [if_neg (by simp)] at hD
  cases qb with
  | true =>
   rw [if_pos rfl] at hD
   rw [hD.out]
   clear hD
   clear hL1
   go_enter Tryz.func32,Tryz.ntmps32
   go_wp2_with fail
   rw [HW2.out]
   refine wp_loop_rounds 3 ?_
   rw [rounds_succ]
   obtain ⟨W3,hW3⟩:∃ V,W2.alloc (.cells #[.slice aP P.length cP,.slice aQ Q.length cQ] 88) = V:=⟨_,rfl⟩
   have bW3:Below W2.heap.size W2 W3:=by rw [← hW3];exact (Below.refl _ _).alloc (Nat.le_refl _) _
   have xW3:Box2 W3 W2.heap.size 88 (.slice aP P.length cP) (.slice aQ Q.length cQ):=by rw [← hW3];exact Box2.new W2 _ _ _
   have z0W3:=xW3.cell0
   have z1W3:=xW3.cell1
   rw [hs2] at xW3 z0W3 z1W3
   have BW3:=(Below.refl W2.heap.size W2).trans (bW3.mono (Below.refl W2.heap.size W2).size)
   have BWW3:=hB2.trans (BW3.mono hB2.size)
   have HVW3:=hid hW3
   clear hW3
   go_wp2_with fail
   rw [HVW3.out]
   refine (hA1.out W3 BWW3).mono ?_
   rintro e w3 ⟨rfl,b3⟩
   have B3:=BW3.trans (b3.mono BW3.size)
   have BW3':=BWW3.trans (b3.mono BWW3.size)
   obtain ⟨_,_,m2,m3,_⟩:=HK.out w3 B3
   clear k0 k1 k2 k3 z0W3 z1W3
   go_wp2
   rw [rounds_succ]
   obtain ⟨W4,hW4⟩:∃ V,w3.alloc (.cells #[.slice aQ Q.length cQ,.slice aP P.length cP] 88) = V:=⟨_,rfl⟩
   have bW4:Below w3.heap.size w3 W4:=by rw [← hW4];exact (Below.refl _ _).alloc (Nat.le_refl _) _
   have xW4:Box2 W4 w3.heap.size 88 (.slice aQ Q.length cQ) (.slice aP P.length cP):=by rw [← hW4];exact Box2.new w3 _ _ _
   have z0W4:=xW4.cell0
   have z1W4:=xW4.cell1
   have BW4:=B3.trans (bW4.mono B3.size)
   have BWW4:=hB2.trans (BW4.mono hB2.size)
   have HVW4:=hid hW4
   clear hW4
   go_wp2_with fail
   rw [HVW4.out]
   refine (hA2.out W4 BWW4).mono ?_
   rintro e w4 ⟨rfl,b4⟩
   have B4:=BW4.trans (b4.mono BW4.size)
   have BW4:=BWW4.trans (b4.mono BWW4.size)
   have y0:=(xW4.below b4 xW4.lt).cell0
   have y1:=(xW4.below b4 xW4.lt).cell1
   have hC:=hid (hL2.out w4 BW4)
   go_wp2_with fail
   refine hC.out.mono ?_
   rintro e w5 ⟨v,u,rfl,n1,n2,b5⟩
   obtain ⟨x1,d1,rfl,_⟩:=New.ints n1
   obtain ⟨x2,d2,rfl,_⟩:=New.ints n2
   have B5:=B4.trans (b5.mono B4.size)
   have q5:=(HK.out w5 B5).2.2.2.2
   have j0:=q5.cell0
   have j1:=q5.cell1
   have f0:=q5.frozen 0
   have f1:=q5.frozen 1
   have j1':=fun v=>(q5.set0 v).cell1
   have f1':=fun v=>(q5.set0 v).frozen 1
   have N1:=hid n1
   have N2:=hid n2
   have BW5:=BW4.trans (b5.mono BW4.size)
   have hlt:w.heap.size < w4.heap.size:=by have:=B4.size;omega
   clear n1 n2 hC
   go_wp2
   refine bodyPost_ret (results_aggR (a:=6) (b:=7) (B:=w.heap.size) Tryz.results32 rfl ((q5.set0 _).set1 _)) rfl ?_
   refine ⟨_,_,rfl,?_,?_,(BW5.setCell (p:=⟨w.heap.size,0,none⟩) (Nat.le_refl _) _).setCell (p:=⟨w.heap.size,1,none⟩) (Nat.le_refl _) _⟩
   ·exact ((N1.out.past2 hlt).past2 hlt).mono (by omega)
   ·exact ((N2.out.past2 hlt).past2 hlt).mono (by omega)
  | false =>
   rw [if_neg (by simp)] at hD
   rw [hD.out]
   clear hD
   clear hL1
   go_enter Tryz.func32,Tryz.ntmps32
   go_wp2_with fail
   rw [HW2.out]
   refine wp_loop_rounds 3 ?_
   rw [rounds_succ]
   obtain ⟨W3,hW3⟩:∃ V,W2.alloc (.cells #[.slice aP P.length cP,.slice aQ Q.length cQ] 88) = V:=⟨_,rfl⟩
   have bW3:Below W2.heap.size W2 W3:=by rw [← hW3];exact (Below.refl _ _).alloc (Nat.le_refl _) _
   have xW3:Box2 W3 W2.heap.size 88 (.slice aP P.length cP) (.slice aQ Q.length cQ):=by rw [← hW3];exact Box2.new W2 _ _ _
   have z0W3:=xW3.cell0
   have z1W3:=xW3.cell1
   rw [hs2] at xW3 z0W3 z1W3
   have BW3:=(Below.refl W2.heap.size W2).trans (bW3.mono (Below.refl W2.heap.size W2).size)
   have BWW3:=hB2.trans (BW3.mono hB2.size)
   have HVW3:=hid hW3
   clear hW3
   go_wp2_with fail
   rw [HVW3.out]
   refine (hA1.out W3 BWW3).mono ?_
   rintro e w3 ⟨rfl,b3⟩
   have B3:=BW3.trans (b3.mono BW3.size)
   have BW3':=BWW3.trans (b3.mono BWW3.size)
   obtain ⟨_,_,m2,m3,_⟩:=HK.out w3 B3
   clear k0 k1 k2 k3 z0W3 z1W3
   go_wp2
   rw [rounds_succ]
   obtain ⟨W4,hW4⟩:∃ V,w3.alloc (.cells #[.slice aQ Q.length cQ,.slice aP P.length cP] 88) = V:=⟨_,rfl⟩
   have bW4:Below w3.heap.size w3 W4:=by rw [← hW4];exact (Below.refl _ _).alloc (Nat.le_refl _) _
   have xW4:Box2 W4 w3.heap.size 88 (.slice aQ Q.length cQ) (.slice aP P.length cP):=by rw [← hW4];exact Box2.new w3 _ _ _
   have z0W4:=xW4.cell0
   have z1W4:=xW4.cell1
   have BW4:=B3.trans (bW4.mono B3.size)
   have BWW4:=hB2.trans (BW4.mono hB2.size)
   have HVW4:=hid hW4
   clear hW4
   go_wp2_with fail
   rw [HVW4.out]
   refine (hA2.out W4 BWW4).mono ?_
   rintro e w4 ⟨rfl,b4⟩
   have B4:=BW4.trans (b4.mono BW4.size)
   have BW4:=BWW4.trans (b4.mono BWW4.size)
   have y0:=(xW4.below b4 xW4.lt).cell0
   have y1:=(xW4.below b4 xW4.lt).cell1
   have q5:=(HK.out w4 B4).2.2.2.2
   have j0:=q5.cell0
   have j1:=q5.cell1
   have f0:=q5.frozen 0
   have f1:=q5.frozen 1
   have j1':=fun v=>(q5.set0 v).cell1
   have f1':=fun v=>(q5.set0 v).frozen 1
   go_wp2
   rw [rounds_succ]
   go_wp2
   refine bodyPost_ret (results_aggR (a:=6) (b:=7) (B:=w.heap.size) Tryz.results32 rfl ((q5.set0 _).set1 _)) rfl ?_
   exact ⟨_,_,rfl,New.nil _ _,New.nil _ _,(BW4.setCell (p:=⟨w.heap.size,0,none⟩) (Nat.le_refl _) _).setCell (p:=⟨w.heap.size,1,none⟩) (Nat.le_refl _) _⟩
end Go.Proofs.YtglohanbpjaieaaGreat
