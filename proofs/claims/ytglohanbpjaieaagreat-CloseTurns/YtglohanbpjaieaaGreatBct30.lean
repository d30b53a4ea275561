/-
  Parts of the proof: Nor4, Ref1, Ref2, Ref3.
-/
import Derived.Test.YtglohanbpjaieaaGreatBct19
import Derived.Test.YtglohanbpjaieaaGreatBct29
import Derived.Test.YtglohanbpjaieaaGreatBct9
namespace Go.Proofs.YtglohanbpjaieaaGreat
open Go.Proofs Go.RowKit Go.Shelf Go.Maps
theorem Tm.step_err {rs:RuleL} {t:List Int} (h2:Tm.stepErr rs t = 0) {j:Nat} (hj:j < (Tm.stepVal rs t).length):Tm.err ((Tm.stepVal rs t)[j]?.getD (0,0,[])).2.2 = 0:=by
 obtain ⟨hru,ht,hall⟩:=Tm.stepErr_term h2
 have hv:Tm.stepVal rs t = Tm.allL rs t t.length:=by unfold Tm.stepVal;rw [if_pos h2]
 rw [hv] at hj ⊢
 obtain ⟨x,hx⟩:∃ x,(Tm.allL rs t t.length)[j]?.getD (0,0,[]) = x:=⟨_,rfl⟩
 have hm:x∈Tm.allL rs t t.length:=by rw [← hx,List.getElem?_eq_getElem hj,Option.getD_some];exact List.getElem_mem hj
 rw [hx]
 obtain ⟨ha,hk,hb,hu⟩:=Tm.allL_mem _ hm
 have he:=Tm.allE_all _ hall _ ha _ hk hb
 obtain ⟨eL,eR,_⟩:=Tm.ruleErr_ok ((Tm.rulesErr_ok hru).2 _ hk)
 obtain ⟨m,hs⟩:=Tm.hit_step hru ht ha hk hb he
 rw [← hu] at hs
 exact (hs.parts eL eR ht ha).2.2.2
set_option maxRecDepth 100000 in
set_option maxHeartbeats 2000000 in
theorem refForm_any (rs:RuleL) (t:List Int) (al at':Option Addr) (cl ct:Nat) (w:World) (hr:Tm.rulesErr rs = 0) (ht:Tm.err t = 0) (hR:RulesAt w.heap.size w al rs) (hT:Ints w.heap.size w at' t) (h1:t.length≤ct) (h2:ct≤maxLen) :
 Calls Tryz.prog 56 #[.slice al rs.length cl,.slice at' t.length ct] w fun e w'=>∃ v,e = .returned (.tuple #[v,.int .i64 ((Tm.form rs t).2.1:Int),.int .i64 (Tm.form rs t).2.2])∧New w.heap.size w' v (Tm.form rs t).1∧Below w.heap.size w w':=by
 unfold Tm.form
 generalize hg:Tm.fm rs 61 t 0 = res
 have HR:=hid hR
 have Hr:=hid hr
 clear hR hr
 go_enter Tryz.func56,Tryz.ntmps56
 go_wp2
 go_loopw [1,7] (fun tv v wr=>∃ (k:Nat) (u:List Int) (a:Option Addr) (c:Nat),k≤60∧v = .int .i64 (k:Int)∧tv = .slice a u.length c∧Hid (Ints wr.heap.size wr a u)∧Hid (Tm.err u = 0)∧u.length≤c∧c≤maxLen∧Hid (Tm.fm rs (61 - k) u k = res)∧Below w.heap.size w wr) (fun _ v _=>61 - (intOf v).toNat)
 case atStart=>exact ⟨0,t,at',ct,by omega,rfl,rfl,hid hT,hid ht,h1,h2,hid hg,Below.refl _ _⟩
 case round =>
  obtain ⟨k,u,a,c,hk,rfl,rfl,hI,hu,hc1,hc2,hst,hB⟩:=hrel
  have hC:=hid (refSteps_any rs u al a cl c wr Hr.out hu.out ((HR.out.below hB).mono hB.size) hI.out hc1 hc2)
  obtain ⟨f,hf⟩:∃ f,61 - k = f+1:=⟨60 - k,by omega⟩
  rw [hf] at hst
  have hki:(k:Int)≤60:=by omega
  unfold StepsAns at hC
  by_cases he:Tm.stepErr rs u = 0
  ·by_cases hn:(Tm.stepVal rs u).length = 0
   ·have hr:=hid ((Tm.fm_end (f:=f) (k:=k) he hn).symm.trans hst.out)
    have h30:=Tm.err_len hu.out
    have hpos:=Tm.err_pos hu.out
    obtain ⟨b,off,ea,_,_⟩:=hI.out.at hpos
    subst ea
    rw [he,List.eq_nil_of_length_eq_zero hn] at hC
    have Hn:=hid hn
    clear he hn hst
    go_wp2_with (first
     | (go_at_call 87;refine hC.out.mono ?_;clear hC;rintro e w1 ⟨v1,rfl,hN1,b1⟩;obtain ⟨va,vc,rfl⟩:=hN1.slice;clear hN1;have hl:New w1.heap.size (w1.alloc (.cells #[] 3)) (.slice (some ⟨w1.heap.size,0,none⟩) 0 0) []:=New.lit w1.heap.size w1 [] (Nat.le_refl _) (by unfold maxLen;simp);have hBn:Below w1.heap.size w1 (w1.alloc (.cells #[] 3)):=(Below.refl _ _).alloc (Nat.le_refl _) _;have i1:=(hI.out.below b1).mono b1.size;have i2:=(i1.below hBn).mono hBn.size)
     | (at_builtin;go_loud (refine wp_append_ints _ rfl _ _ rfl w1.heap.size _ [] rfl hl (some ⟨b,off,none⟩) u c rfl (fun h=>by cases h) i2 (by simp;omega) (by simp) ?_);intro v' w2 hN hB2;obtain ⟨xa,xc,rfl,_⟩:=New.ints hN))
    go_ret3
    have B1:=hB.trans (b1.mono hB.size)
    rw [← hr.out]
    exact ⟨_,rfl,New.mono hN B1.size,B1.trans ((hBn.trans hB2).mono B1.size)⟩
   ·have hp:0 < (Tm.stepVal rs u).length:=by omega
    have hr:=hid ((Tm.fm_go (f:=f) (k:=k) he hp).symm.trans hst.out)
    have hue:=hid (Tm.step_err he hp)
    rw [he] at hC
    clear he hn hst hI hu
    generalize Tm.stepVal rs u = sts at *
    have hpi:(0:Int) < (sts.length:Int):=by omega
    have hne:((sts.length:Int) == 0) = false:=len_no (by omega)
    by_cases h60:k = 60
    ·subst h60
     obtain rfl:f = 0:=by omega
     rw [Tm.fm] at hr
     go_wp2_with (first
      | (go_at_call 87;refine hC.out.mono ?_;clear hC;rintro e w1 ⟨v1,rfl,hN1,b1⟩;obtain ⟨g,cg,rfl⟩:=hN1.slice;clear hN1))
     go_ret3
     rw [← hr.out]
     exact ⟨_,rfl,New.nil _ _,hB.trans (b1.mono hB.size)⟩
    ·have hk60:((k:Int) == 60) = false:=by rw [beq_eq_false_iff_ne];omega
     have hff:f = 61 - (k+1):=by omega
     rw [hff] at hr
     clear hf hff
     go_wp2_with (first
      | (go_at_call 87;refine hC.out.mono ?_;clear hC;rintro e w1 ⟨v1,rfl,hN1,b1⟩;obtain ⟨g,cg,rfl,hat⟩:=hN1.at hp;obtain ⟨x0,y0,_,_,c02,i0,q0,q1⟩:=hat 0 hp;clear hat;simp only [Nat.zero_mul,Nat.zero_add] at c02;have HN:=hid hN1;clear hN1;generalize (sts[0]?.getD (0,0,[])).2.2 = u1 at *))
     go_roundw
     case rel=>exact ⟨k+1,u1,x0,y0,by omega,by go_num,rfl,hid i0,hid hue.out,q0,q1,hid hr.out,hB.trans (b1.mono hB.size)⟩
     case measure=>simp [intOf];omega
  ·have hr:=hid ((Tm.fm_bad (f:=f) (k:=k) he).symm.trans hst.out)
   have hne:(Tm.stepErr rs u != 0) = true:=by simpa using he
   clear he hst hI hu
   generalize Tm.stepErr rs u = q at *
   go_wp2_with (first
    | (go_at_call 87;refine hC.out.mono ?_;clear hC;rintro e w1 ⟨v1,rfl,hN1,b1⟩;obtain ⟨va,vc,rfl⟩:=hN1.slice;clear hN1))
   go_ret3
   rw [← hr.out]
   exact ⟨_,rfl,New.nil _ _,hB.trans (b1.mono hB.size)⟩
theorem has_snoc {zs:List Int} {x:Int} {k:Nat} (hk:k < zs.length):Tm.hasB (zs.take (k+1)) x = (Tm.hasB (zs.take k) x || (zs[k]?.getD 0 == x)):=by
 unfold Tm.hasB
 rw [take_snoc hk,Bool.eq_iff_iff]
 simp only [decide_eq_true_eq,List.mem_append,List.mem_singleton,Bool.or_eq_true,beq_iff_eq]
 exact ⟨fun h=>h.imp id Eq.symm,fun h=>h.imp id Eq.symm⟩
set_option maxRecDepth 100000 in
set_option maxHeartbeats 1000000 in
theorem rankError_any (rk:List Int) (a:Option Addr) (cap:Nat) (w:World) (hI:Ints w.heap.size w a rk) :
 Calls Tryz.prog 34 #[.slice a rk.length cap] w fun e w'=>e = .returned (.int .i64 (Tm.rankErr rk))∧w' = w:=by
 by_cases h6:rk.length = 6
 ·have hbad:=hid (fun (n:Nat) (h1:n < 6) h2=>rank_bad h6 h1 h2)
  have hgood:=hid (rank_good h6)
  have hne:((rk.length:Int) != 6) = false:=by simp;omega
  have hl6:(rk.length:Int)≤6:=by omega
  obtain ⟨b,off,rfl,hb,hc⟩:=hI.at (by omega)
  have Hc:=hid hc
  clear h6 hc
  generalize Tm.rankErr rk = q at *
  go_enter Tryz.func34,Tryz.ntmps34
  go_wp2
  go_loop [3] (fun i=>∃ n:Nat,n≤6∧i = .int .i64 (n:Int)∧∀ j:Nat,j < n→Tm.hasB rk (j:Int) = true) (fun i=>6 - (intOf i).toNat)
  case atStart=>exact ⟨0,Nat.zero_le _,rfl,fun j hj=>by omega⟩
  case round =>
   obtain ⟨n,hn,rfl,hall⟩:=hrel
   have Hall:=hid hall
   clear hall
   by_cases hlt:n < 6
   ·have hlt':(n:Int) < 6:=by omega
    go_wp2
    go_loop [4,5] (fun f i=>∃ k:Nat,k≤rk.length∧i = .int .i64 (k:Int)∧f = .bool (Tm.hasB (rk.take k) (n:Int))) (fun _ i=>rk.length - (intOf i).toNat)
    case atStart=>exact ⟨0,Nat.zero_le _,rfl,by simp [Tm.hasB]⟩
    case round =>
     obtain ⟨k,hk,rfl,rfl⟩:=hrel
     by_cases hk2:k < rk.length
     ·have hk2':(k:Int) < (rk.length:Int):=by omega
      have hck:=Hc.out k hk2
      have hsn:=hid (has_snoc (x:=(n:Int)) hk2)
      generalize rk[k]?.getD 0 = s at *
      cases hfb:Tm.hasB (rk.take k) (n:Int) with
      | true =>
       rw [hfb] at hsn
       clear hfb
       go_wp2
       go_round
       case rel=>exact ⟨k+1,by omega,by go_num,by rw [hsn.out];rfl⟩
       case measure=>simp [intOf];omega
      | false =>
       rw [hfb] at hsn
       clear hfb
       go_wp2
       go_round
       case rel=>exact ⟨k+1,by omega,by go_num,by rw [hsn.out];rfl⟩
       case measure=>simp [intOf];omega
     ·obtain rfl:k = rk.length:=by omega
      rw [List.take_length]
      cases hq:Tm.hasB rk (n:Int) with
      | true =>
       have hall':=hid (fun j (hj:j < n+1)=>show Tm.hasB rk ((j:Nat):Int) = true by
        by_cases e:j = n
        ·rw [e];exact hq
        ·exact Hall.out j (by omega))
       clear hq
       go_wp2
       go_round
       case rel=>exact ⟨n+1,by omega,by go_num,hall'.out⟩
       case measure=>simp [intOf];omega
      | false =>
       have hb':=hid (hbad.out n hlt hq)
       clear hq
       go_wp2
       go_ret
       exact ⟨by rw [hb'.out];rfl,rfl⟩
   ·obtain rfl:n = 6:=by omega
    have hg:=hid (hgood.out Hall.out)
    go_wp2
    go_ret
    exact ⟨by rw [hg.out];rfl,rfl⟩
 ·have hne:((rk.length:Int) != 6) = true:=by simp;omega
  have he:Tm.rankErr rk = 1:=by unfold Tm.rankErr;rw [if_neg h6]
  rw [he]
  clear h6 he
  go_enter Tryz.func34,Tryz.ntmps34
  go_wp2
  go_ret
  exact ⟨rfl,rfl⟩
def Tm.posL (t:List Int) (k m:Nat):List Int:=(List.range m).map fun i=>(Tm.pos t k i:Int)
theorem Tm.posL_len (t:List Int) (k m:Nat):(Tm.posL t k m).length = m:=by simp [Tm.posL]
theorem Tm.posL_succ (t:List Int) (k m:Nat):Tm.posL t k (m+1) = Tm.posL t k m++[(Tm.pos t k m:Int)]:=by simp [Tm.posL,List.range_succ]
theorem Tm.posL_at (t:List Int) (k:Nat) {m i:Nat} (h:i < m):(Tm.posL t k m)[i]?.getD 0 = (Tm.pos t k i:Int):=by simp [Tm.posL,h]
theorem Tm.pos_lt {t:List Int} (he:Tm.err t = 0) {k:Nat} (hk:k < t.length) {m:Nat} (hm:m < Tm.room (t[k]?.getD 0)):Tm.pos t k m < t.length:=by
 have h1:=Tm.pos_part he hk m (by omega)
 have h2:=Tm.pos_in (Tm.part_err he hk) (m:=m) (by rw [Tm.sym_part he hk];exact hm)
 rw [Tm.part_length he hk] at h2
 have h3:=Tm.end_in he hk
 omega
set_option maxRecDepth 100000 in
set_option maxHeartbeats 1000000 in
theorem partsAt_any (t:List Int) (a:Option Addr) (cap k:Nat) (w:World) (hI:Ints w.heap.size w a t) (h1:t.length≤cap) (h2:cap≤maxLen) (he:Tm.err t = 0) (hk:k < t.length) :
 Calls Tryz.prog 93 #[.slice a t.length cap,.int .i64 (k:Int)] w fun e w'=>∃ v,e = .returned v∧New w.heap.size w' v (Tm.posL t k (Tm.room (t[k]?.getD 0)))∧Below w.heap.size w w':=by
 have hl30:=Tm.err_len he
 have hl30':(t.length:Int)≤30:=by omega
 have hkl:(k:Int) < (t.length:Int):=by omega
 have hs6:=Tm.known_lt (Tm.all_at (Tm.err_all he) hk)
 have hend:=hid (fun W (hW:Below w.heap.size w W) j (hj:j < t.length)=>endOf_any t a cap j W ((hI.below hW).mono hW.size) h1 h2 he hj)
 have hplt:=hid (fun m (hm:m < Tm.room (t[k]?.getD 0))=>Tm.pos_lt he hk hm)
 have hcell:=hid (fun W (hW:Below w.heap.size w W)=>((hI.below hW).mono hW.size))
 have hr2:=Tm.room_le (t[k]?.getD 0)
 have hz:=hid (fun W=>size_any (t[k]?.getD 0) W hs6)
 obtain ⟨b,off,rfl,hb,_⟩:=hI.at (by omega)
 have hcc:=hid (fun W (hW:Below w.heap.size w W)=>show W.cell? ⟨b,off+k,none⟩ = some (.int .i64 (t[k]?.getD 0)) by
  obtain ⟨b',off',e,_,hc⟩:=hcell.out W hW k hk
  cases e;exact hc)
 clear hI h1 h2 he hs6 hcell
 generalize hr:Tm.room (t[k]?.getD 0) = r at *
 clear hr
 generalize t[k]?.getD 0 = s at *
 go_enter Tryz.func93,Tryz.ntmps93
 go_wp2
 go_loopw [5,6,7] (fun v p i wr=>∃ m:Nat,m≤r∧i = .int .i64 (m:Int)∧p = .int .i64 (Tm.pos t k m:Int)∧New w.heap.size wr v (Tm.posL t k m)∧Below w.heap.size w wr) (fun _ _ i _=>r - (intOf i).toNat)
 case atStart=>exact ⟨0,Nat.zero_le _,rfl,by rw [Tm.pos_zero];rfl,New.nil _ _,Below.refl _ _⟩
 case round =>
  obtain ⟨m,hm,rfl,rfl,hN,hB⟩:=hrel
  obtain ⟨a0,c0,rfl,_⟩:=New.ints hN
  have hck:=hcc.out wr hB
  have hpl:(Tm.posL t k m).length≤2:=by rw [Tm.posL_len];omega
  by_cases hlt:m < r
  ·have hlt':(m:Int) < (r:Int):=by omega
   have hp:=hplt.out m hlt
   have hst:=hid (Tm.posL_succ t k m)
   have hps:=hid (Tm.pos_succ t k m)
   go_wp2_with (first
    | (go_at_call 43;refine (hz.out _).mono ?_;rintro e wr ⟨rfl,rfl⟩)
    | (at_builtin;go_loud (refine wp_append_int1 _ rfl _ _ rfl w.heap.size _ (Tm.posL t k m) rfl (New.alloc hN _) wr.heap.size (Tm.pos t k m:Int) rfl (cell_new _ _ _ _ rfl) (by omega) (by have:=hB.size;simp;omega) ?_);intro v' w3 hN3 hg3 hB5;obtain ⟨a3,c3,rfl,_⟩:=New.ints hN3;have hB6:=(hB.alloc hB.size _).trans hB5)
    | (go_at_call 120;refine (hend.out _ hB6 _ hp).mono ?_;rintro e w4 ⟨rfl,hB7⟩))
   go_roundw
   case rel=>exact ⟨m+1,by omega,by go_num,by rw [hps.out],by rw [hst.out];exact New.below (by simpa using hN3) hB7,hB6.trans (hB7.mono hB6.size)⟩
   case measure=>simp [intOf];omega
  ·obtain rfl:m = r:=by omega
   have hnl:¬ (m:Int) < (m:Int):=by omega
   go_wp2_with (first
    | (go_at_call 43;refine (hz.out _).mono ?_;rintro e wr ⟨rfl,rfl⟩))
   go_ret
   exact ⟨_,rfl,hN,hB⟩
def Tab (W:World) (B:Nat) (f:Nat→Nat→Bool):Prop:=B < W.heap.size∧∀ i j,i < 30→j < 30→W.cell? ⟨B,i * 30+j,none⟩ = some (.bool (f i j))∧W.frozen? ⟨B,i * 30+j,none⟩ = false
theorem Tab.below {W W':World} {B:Nat} {f:Nat→Nat→Bool} (h:Tab W B f) (hB:Below W.heap.size W W'):Tab W' B f :=
 ⟨Nat.lt_of_lt_of_le h.1 hB.size,fun i j hi hj=>⟨(hB.cell (p:=⟨B,i * 30+j,none⟩) h.1).trans (h.2 i j hi hj).1,(hB.frozen (p:=⟨B,i * 30+j,none⟩) h.1).trans (h.2 i j hi hj).2⟩⟩
theorem Tab.drew {W:World} {B:Nat} {f:Nat→Nat→Bool} (h:Tab W B f) (d:Nat):Tab (W.drewN d) B f:=h
def up2 (f:Nat→Nat→Bool) (i j:Nat) (v:Bool):Nat→Nat→Bool:=fun p q=>if p = i∧q = j then v else f p q
theorem up2_same (f:Nat→Nat→Bool) (i j:Nat) (v:Bool):up2 f i j v i j = v:=by simp [up2]
theorem up2_other (f:Nat→Nat→Bool) {i j p q:Nat} (v:Bool) (h:p≠i∨q≠j):up2 f i j v p q = f p q:=by
 unfold up2
 rw [if_neg]
 rintro ⟨rfl,rfl⟩
 omega
theorem up2_up2 (f:Nat→Nat→Bool) (i j:Nat) (v u:Bool):up2 (up2 f i j v) i j u = up2 f i j u:=by
 funext p q
 simp only [up2]
 split <;> rfl
theorem Tab.set {W:World} {B:Nat} {f:Nat→Nat→Bool} (h:Tab W B f) {i j:Nat} (hi:i < 30) (hj:j < 30) (v:Bool):Tab (W.setCell ⟨B,i * 30+j,none⟩ (.bool v)) B (up2 f i j v):=by
 refine ⟨Nat.lt_of_lt_of_le h.1 (KeepsWalks.setCell W _ _).size,fun p q hp hq=>⟨?_,by rw [World.frozen?_setCell];exact (h.2 p q hp hq).2⟩⟩
 by_cases e:p = i∧q = j
 ·obtain ⟨rfl,rfl⟩:=e
  rw [up2_same]
  exact World.cell?_setCell_same _ _ _ (h.2 p q hp hq).1
 ·rw [up2_other _ _ (by omega),World.cell?_setCell_other (h:=fun e'=>by
   simp only [Addr.mk.injEq,and_true,true_and] at e'
   omega)]
  exact (h.2 p q hp hq).1
theorem Tab.eq {W:World} {B:Nat} {f g:Nat→Nat→Bool} (h:Tab W B f) (e:f = g):Tab W B g:=e ▸ h
def tbf (rk za zb:List Int) (n m p q:Nat):Bool:=if p < za.length∧q < zb.length∧(n < p∨(p = n∧m≤q)) then Tm.ab rk za zb p q else false
def tb0 (rk za zb:List Int) (n p q:Nat):Bool:=if p < za.length∧q < zb.length∧n≤p then Tm.ab rk za zb p q else false
theorem tbf_start (rk za zb:List Int) (i:Nat):tb0 rk za zb (i+1) = tbf rk za zb i zb.length:=by
 funext p q
 unfold tb0 tbf
 by_cases h:p < za.length∧q < zb.length∧i+1≤p
 ·rw [if_pos h,if_pos ⟨h.1,h.2.1,by omega⟩]
 ·rw [if_neg h,if_neg (by omega)]
theorem tbf_end (rk za zb:List Int) (i:Nat):tbf rk za zb i 0 = tb0 rk za zb i:=by
 funext p q
 unfold tb0 tbf
 by_cases h:p < za.length∧q < zb.length∧i≤p
 ·rw [if_pos ⟨h.1,h.2.1,by omega⟩,if_pos h]
 ·rw [if_neg (by omega),if_neg h]
theorem tbf_step {rk za zb:List Int} {i j:Nat} (hi:i < za.length) (hj:j < zb.length):up2 (tbf rk za zb i (j+1)) i j (Tm.ab rk za zb i j) = tbf rk za zb i j:=by
 funext p q
 by_cases e:p = i∧q = j
 ·obtain ⟨rfl,rfl⟩:=e
  rw [up2_same]
  unfold tbf
  rw [if_pos ⟨hi,hj,by omega⟩]
 ·rw [up2_other _ _ (by omega)]
  unfold tbf
  by_cases h:p < za.length∧q < zb.length∧(i < p∨(p = i∧j≤q))
  ·rw [if_pos h,if_pos ⟨h.1,h.2.1,by omega⟩]
  ·rw [if_neg h,if_neg (by omega)]
theorem tbf_self (rk za zb:List Int) (i j:Nat):tbf rk za zb i (j+1) i j = false:=by unfold tbf;rw [if_neg (by omega)]
theorem tbf_row {rk za zb:List Int} {i m p q:Nat} (hp:p < za.length) (hq:q < zb.length) (h:i < p):tbf rk za zb i m p q = Tm.ab rk za zb p q:=by unfold tbf;rw [if_pos ⟨hp,hq,.inl h⟩]
theorem tbf_col {rk za zb:List Int} {i m q:Nat} (hp:i < za.length) (hq:q < zb.length) (h:m≤q):tbf rk za zb i m i q = Tm.ab rk za zb i q:=by unfold tbf;rw [if_pos ⟨hp,hq,.inr ⟨rfl,h⟩⟩]
theorem Tab.off {W:World} {B:Nat} {rk za zb:List Int} {i j:Nat} {v:Bool} (h:Tab W B (up2 (tbf rk za zb i (j+1)) i j v)) {p q:Nat} (hp:p < za.length) (hq:q < zb.length) (hl:i < p∨(p = i∧j < q)) (h1:p < 30) (h2:q < 30):W.cell? ⟨B,p * 30+q,none⟩ = some (.bool (Tm.ab rk za zb p q)):=by
 have h3:=(h.2 p q h1 h2).1
 rw [up2_other _ _ (by omega)] at h3
 rcases hl with hl | ⟨rfl,hl⟩
 ·rw [tbf_row hp hq hl] at h3;exact h3
 ·rw [tbf_col hp hq (by omega)] at h3;exact h3
theorem Tab.on {W:World} {B:Nat} {f:Nat→Nat→Bool} {i j:Nat} {v:Bool} (h:Tab W B (up2 f i j v)) (h1:i < 30) (h2:j < 30):W.cell? ⟨B,i * 30+j,none⟩ = some (.bool v):=by
 have h3:=(h.2 i j h1 h2).1
 rw [up2_same] at h3
 exact h3
theorem zeros900:Tryz.zeroCells135 = (List.replicate 900 (Value.bool false)).toArray:=by kernel_rfl
theorem Tab.new (w:World) (rk za zb:List Int):Tab (w.alloc (.cells Tryz.zeroCells135 135)) w.heap.size (tb0 rk za zb za.length):=by
 refine ⟨by simp,fun i j hi hj=>?_⟩
 have hb:=World.alloc_heap_new w (.cells Tryz.zeroCells135 135)
 have h0:tb0 rk za zb za.length i j = false:=by unfold tb0;rw [if_neg (by omega)]
 rw [h0]
 constructor
 ·rw [cell_at hb,zeros900]
  have:i * 30+j < 900:=by omega
  rw [List.getElem?_toArray,List.getElem?_replicate,if_pos this]
 ·unfold World.frozen?
  rw [hb]
  simp
theorem up2_start (rk za zb:List Int) (i j:Nat):tbf rk za zb i (j+1) = up2 (tbf rk za zb i (j+1)) i j false:=by
 funext p q
 by_cases e:p = i∧q = j
 ·obtain ⟨rfl,rfl⟩:=e;rw [up2_same,tbf_self]
 ·rw [up2_other _ _ (by omega)]
end Go.Proofs.YtglohanbpjaieaaGreat
