/-
  Parts of the proof: Prs6, Prs7, Prs8, Clo1.
-/
import Derived.Deep.DrawnRows
import Derived.Test.YtglohanbpjaieaaGreatBct14
import Derived.Deep.RegionHeld3
import Derived.Test.YtglohanbpjaieaaGreatBct9
import Derived.OwnWalk
import Derived.Deep.AppendLies
namespace Go.Proofs.YtglohanbpjaieaaGreat
open Go.Proofs Go.RowKit Go.Shelf Go.Maps
attribute [local go_sem] Oper.semAt_some
attribute [local go_sem ↓] Go.wp_at_zero Go.wp_at_succ
structure LpAt (L1 R1 L2 R2:List Int) (pass:Nat→Bool) (w2:World) (B:Nat) (tv:Value) (m:Nat) (W:World):Prop where
 inv:∃ l,Tm.Laps L1 R1 L2 R2 pass m l∧PInv w2 B tv l W
structure LpOut (L1 R1 L2 R2:List Int) (pass:Nat→Bool) (w:World) (n:Nat) (c:Code) (W:World):Prop where
 ret:c = .ret
 kp:Below n w W
 bad:∃ er,Tm.LapsErr L1 R1 L2 R2 pass er∧Boxed W (n+1+1+1) 24 (.slice none 0 0)∧Boxed W (n+1+1+1+1) 25 (.int .i64 er)
theorem laps_boxes (w W5:World) (x0 x1 y0 y1 f:Value) (hW5:((((w.alloc (.cells #[x0,x1] 54)).alloc (.cells #[y0,y1] 54)).alloc (.cells #[f] 98)).alloc (.cells #[.slice none 0 0] 24)).alloc (.cells #[.int .i64 0] 25) = W5) :
 Below w.heap.size w W5∧Box2 W5 w.heap.size 54 x0 x1∧Box2 W5 (w.heap.size+1) 54 y0 y1∧Boxed W5 (w.heap.size+1+1) 98 f∧Boxed W5 (w.heap.size+1+1+1) 24 (.slice none 0 0)∧Boxed W5 (w.heap.size+1+1+1+1) 25 (.int .i64 0)∧W5.heap.size = w.heap.size+1+1+1+1+1:=by
 subst hW5
 refine ⟨(((((Below.refl _ w).alloc (Nat.le_refl _) _).alloc (by simp) _).alloc (by simp;omega) _).alloc (by simp;omega) _).alloc (by simp;omega) _,((((Box2.new w _ _ _).alloc _).alloc _).alloc _).alloc _,?_,?_,?_,?_,by simp⟩
 ·have h:=Box2.new (w.alloc (.cells #[x0,x1] 54)) 54 y0 y1
  rw [World.size_alloc] at h
  exact ((h.alloc _).alloc _).alloc _
 ·have h:=Boxed.new ((w.alloc (.cells #[x0,x1] 54)).alloc (.cells #[y0,y1] 54)) 98 f
  simp only [World.size_alloc] at h
  exact (h.alloc _).alloc _
 ·have h:=Boxed.new (((w.alloc (.cells #[x0,x1] 54)).alloc (.cells #[y0,y1] 54)).alloc (.cells #[f] 98)) 24 (.slice none 0 0)
  simp only [World.size_alloc] at h
  exact h.alloc _
 ·have h:=Boxed.new ((((w.alloc (.cells #[x0,x1] 54)).alloc (.cells #[y0,y1] 54)).alloc (.cells #[f] 98)).alloc (.cells #[.slice none 0 0] 24)) 25 (.int .i64 0)
  simpa only [World.size_alloc] using h
set_option maxRecDepth 100000 in
set_option maxHeartbeats 4000000 in
theorem laps_any (L1 R1 L2 R2:List Int) (a1 b1 a2 b2:Option Addr) (c1 d1 c2 d2:Nat) (i j:Int) (B9 B4 B5:Nat) (w:World) (hL:Tm.err L1 = 0) (hL1:Ints w.heap.size w a1 L1) (hR1:Ints w.heap.size w b1 R1) (hL2:Ints w.heap.size w a2 L2) (hR2:Ints w.heap.size w b2 R2) (k1:L1.length≤c1) (k2:c1≤maxLen) (k3:L2.length≤c2) (k4:c2≤maxLen)
 (h9:w.cell? ⟨B9,0,none⟩ = some (.slice a1 L1.length c1)) (h4:w.cell? ⟨B4,0,none⟩ = some (.int .i64 i)) (h5:w.cell? ⟨B5,0,none⟩ = some (.int .i64 j)) :
 Calls Tryz.prog 78 #[.agg #[.slice a1 L1.length c1,.slice b1 R1.length d1],.agg #[.slice a2 L2.length c2,.slice b2 R2.length d2],.func (.func 77) #[] #[.pointer (some ⟨B9,0,none⟩),.pointer (some ⟨B4,0,none⟩),.pointer (some ⟨B5,0,none⟩)]] w fun e w'=>∃ er ps v,Tm.LapsSays L1 R1 L2 R2 (Tm.passB L1 i j) er ps∧e = .returned (.tuple #[v,.int .i64 er])∧NewP w.heap.size w' v ps∧Below w.heap.size w w':=by
 obtain ⟨F,hF⟩:∃ F,F = Fence.wide:=⟨_,rfl⟩
 refine (callsIn_wide (n:=3)).1 ?_
 rw [← hF]
 obtain ⟨hro,hfn,hdd,hcin⟩:=wide_facts hF
 have HPl:Hid (Pl F):=by rw [hF];exact wide_pl
 have HF:=hid hF
 clear hF
 have hf1:=hfn 78
 have hf4:=hfn 50
 have hf5:=hfn 70
 have hf6:=hfn 106
 have hf7:=hfn 107
 have hf8:=hfn 77
 clear hfn
 have l30:=Tm.err_len hL
 have lpos:=Tm.err_pos hL
 have l9:=lt_of_cell h9
 have l4:=lt_of_cell h4
 have l5:=lt_of_cell h5
 obtain ⟨W5,hW5⟩:∃ W5,((((w.alloc (.cells #[.slice a1 L1.length c1,.slice b1 R1.length d1] 54)).alloc (.cells #[.slice a2 L2.length c2,.slice b2 R2.length d2] 54)).alloc (.cells #[.func (.func 77) #[] #[.pointer (some ⟨B9,0,none⟩),.pointer (some ⟨B4,0,none⟩),.pointer (some ⟨B5,0,none⟩)]] 98)).alloc (.cells #[.slice none 0 0] 24)).alloc (.cells #[.int .i64 0] 25) = W5:=⟨_,rfl⟩
 obtain ⟨hB5,bO1,bO2,bF,b0,b1',hs5⟩:=laps_boxes w W5 _ _ _ _ _ hW5
 have HW5:=hid hW5
 clear hW5
 have z0:(W5.alloc (.cells #[.slice none 0 0] 24)).cell? ⟨w.heap.size,0,none⟩ = some (.slice a1 L1.length c1):=(bO1.alloc _).cell0
 refine callsIn_of_wp_marks Tryz.func78 rfl hf1 ?_ hro
 simp only [Tryz.ntmps78,List.size_toArray,List.length_cons,List.length_nil,Nat.reduceAdd,Nat.reduceSub,Array.replicate_succ,Array.replicate_zero,List.push_toArray,List.append_toArray,List.nil_append,List.cons_append]
 gi_wp2_with fail
 rw [HW5.out]
 gi_wp2_with (first
  | ((try refine ⟨hdd _,?_⟩);gi_at_call 50;refine (placesx_in F HPl.out _ _ _ _ _).mono ?_;rintro e w' ⟨rfl,rfl⟩))
 have hBx:Below W5.heap.size W5 ((W5.alloc (.cells #[.slice none 0 0] 24)).alloc (.cells #[.slice a1 L1.length c1] 35)):=((Below.refl _ W5).alloc (Nat.le_refl _) _).alloc (by simp) _
 have bO:=(Boxed.new W5 24 (.slice none 0 0)).alloc (.cells #[.slice a1 L1.length c1] 35)
 have bP:=Boxed.new (W5.alloc (.cells #[.slice none 0 0] 24)) 35 (.slice a1 L1.length c1)
 rw [World.size_alloc] at bP
 rw [hs5] at bO bP hBx
 have I0:LpAt L1 R1 L2 R2 (Tm.passB L1 i j) W5 (w.heap.size+1+1+1+1+1) (.slice a1 L1.length c1) 0 ((W5.alloc (.cells #[.slice none 0 0] 24)).alloc (.cells #[.slice a1 L1.length c1] 35)):=⟨⟨[],.zero,⟨⟨_,bO,NewP.nil _ _⟩,bP,hBx⟩⟩⟩
 have hs7:((W5.alloc (.cells #[.slice none 0 0] 24)).alloc (.cells #[.slice a1 L1.length c1] 35)).heap.size = w.heap.size+1+1+1+1+1+1+1:=by simp [hs5]
 obtain ⟨W7,hW7⟩:∃ W7,(W5.alloc (.cells #[.slice none 0 0] 24)).alloc (.cells #[.slice a1 L1.length c1] 35) = W7:=⟨_,rfl⟩
 rw [hW7] at I0 hs7 ⊢
 have HL1:=hid hL1
 have HR1:=hid hR1
 have HL2:=hid hL2
 have HR2:=hid hR2
 have hl30':(L1.length:Int)≤30:=by omega
 have Hs5:=hid hs5
 have H9:=hid h9
 have H4:=hid h4
 have H5:=hid h5
 have HB5:=hid hB5
 have hnn:w.heap.size+1+1+1+1+1≤W5.heap.size:=by omega
 clear hW7 bO bP hBx z0 hL1 hR1 hL2 hR2 h9 h4 h5 hs5 HW5
 refine wpIn_rangeSteps hro (by omega) (gf:=70) (lb:=#[.pointer (some ⟨w.heap.size+1+1+1+1+1+1,0,none⟩)]) rfl hf5 (enters_of Tryz.func70 (by kernel_rfl) rfl)
  (places_steps F HPl.out _ (w.heap.size+1+1+1+1+1+1) c1 a1 L1 (by omega)) (fun _=>rfl)
  (LpAt L1 R1 L2 R2 (Tm.passB L1 i j) W5 (w.heap.size+1+1+1+1+1) (.slice a1 L1.length c1)) (LpOut L1 R1 L2 R2 (Tm.passB L1 i j) w w.heap.size) (fun _ _=>False) (.inl fun _ _ h=>h)
  (by
    rintro m X Y row ⟨l,hl,inv⟩ hg hr
    exact ⟨l,hl,inv.own hnn (by omega) hg hr⟩)
  (by
    rintro c X Y row ⟨q1,kp,er,q2,q3,q4⟩ hg hr
    exact ⟨q1,⟨hg.os.trans kp.os,hg.tape.trans kp.tape,hg.output.trans kp.output,Nat.le_trans kp.size hg.size,fun k hk=>(hg.block k (by have:=kp.size;omega) (fun e=>by have:=(hr k e.symm).1;omega)).trans (kp.block k hk)⟩,er,q2,cells_own q3 hg hr,cells_own q4 hg hr⟩)
  (fun m W hI=>by
    obtain ⟨l,_,inv⟩:=hI
    have hb:=HB5.out.trans (inv.kp.mono (by omega))
    exact ⟨inv.bP.cell,(HL1.out.below hb).mono hb.size⟩)
  I0
  (fun m=>{ tmps:=#[.agg #[.slice a1 L1.length c1,.slice b1 R1.length d1],.agg #[.slice a2 L2.length c2,.slice b2 R2.length d2],.func (.func 77) #[] #[.pointer (some ⟨B9,0,none⟩),.pointer (some ⟨B4,0,none⟩),.pointer (some ⟨B5,0,none⟩)],.pointer (some ⟨w.heap.size,0,none⟩),.pointer (some ⟨w.heap.size+1,0,none⟩),.pointer (some ⟨w.heap.size+1+1,0,none⟩),.pointer (some ⟨w.heap.size+1+1+1,0,none⟩),.pointer (some ⟨w.heap.size+1+1+1+1,0,none⟩),.pointer (some ⟨w.heap.size+1+1+1+1+1,0,none⟩),.int .i64 (m:Int),.int .i64 (Tm.endAt L1 m:Int),undef,undef,undef,undef,.pointer (some ⟨w.heap.size,0,none⟩),.slice a1 L1.length c1,.func (.func 70) #[] #[.pointer (some ⟨w.heap.size+1+1+1+1+1+1,0,none⟩)],.int .i64 (m:Int),.int .i64 (Tm.endAt L1 m:Int),undef,undef,undef,undef,undef,undef,undef,undef,undef,undef,undef,undef,undef,undef,undef,undef,undef,undef,undef,undef,undef,undef,undef,undef,undef,undef,undef,undef,undef,undef,undef,undef,undef,undef,undef,undef],defers:=[] }) ?assign ?body ?done ?stop ?panic
 case assign =>
  intro l m W K hK
  simp only [encPl]
  gi_wp2
  exact hK
 case body =>
  rintro l m W ⟨lp,hlp,inv⟩ hm
  have hbW:Below w.heap.size w W:=HB5.out.trans (inv.kp.mono (by omega))
  have hsW:W5.heap.size≤W.heap.size:=inv.kp.size
  have cF:W.cell? ⟨w.heap.size+1+1,0,none⟩ = some (.func (.func 77) #[] #[.pointer (some ⟨B9,0,none⟩),.pointer (some ⟨B4,0,none⟩),.pointer (some ⟨B5,0,none⟩)]):=(inv.kp.cell (p:=⟨w.heap.size+1+1,0,none⟩) (by show w.heap.size+1+1 < w.heap.size+1+1+1+1+1;omega)).trans bF.cell
  have c0:W.cell? ⟨w.heap.size,0,none⟩ = some (.slice a1 L1.length c1):=(inv.kp.cell (p:=⟨w.heap.size,0,none⟩) (by show w.heap.size < w.heap.size+1+1+1+1+1;omega)).trans bO1.cell0
  have c01:W.cell? ⟨w.heap.size,1,none⟩ = some (.slice b1 R1.length d1):=(inv.kp.cell (p:=⟨w.heap.size,1,none⟩) (by show w.heap.size < w.heap.size+1+1+1+1+1;omega)).trans bO1.cell1
  have c1':W.cell? ⟨w.heap.size+1,0,none⟩ = some (.slice a2 L2.length c2):=(inv.kp.cell (p:=⟨w.heap.size+1,0,none⟩) (by show w.heap.size+1 < w.heap.size+1+1+1+1+1;omega)).trans bO2.cell0
  have c11:W.cell? ⟨w.heap.size+1,1,none⟩ = some (.slice b2 R2.length d2):=(inv.kp.cell (p:=⟨w.heap.size+1,1,none⟩) (by show w.heap.size+1 < w.heap.size+1+1+1+1+1;omega)).trans bO2.cell1
  have Hp:=hid (CallsIn.inRound l (hcin (n:=0) (pass_any L1 a1 c1 i j m B9 B4 B5 W hm ((HL1.out.below hbW).mono hbW.size) ((hbW.cell (p:=⟨B9,0,none⟩) l9).trans H9.out) ((hbW.cell (p:=⟨B4,0,none⟩) l4).trans H4.out) ((hbW.cell (p:=⟨B5,0,none⟩) l5).trans H5.out))))
  have Hlp:=hid hlp
  have Hinv:=hid inv
  have hyes:=hid (fun (h:Tm.passB L1 i j m = true)=>Tm.Laps.pass hlp h)
  have hno:=hid (fun (h:Tm.passB L1 i j m = false) val hs=>Tm.Laps.no (val:=val) hlp h hs)
  have hye:=hid (fun (h:Tm.passB L1 i j m = false) val hs he=>Tm.Laps.yes (val:=val) hlp h hs he)
  have hbad:=hid (fun (h:Tm.passB L1 i j m = false) e (h0:e≠0) hs=>(⟨h0,m,lp,hm,hlp,h,hs⟩:Tm.LapsErr L1 R1 L2 R2 (Tm.passB L1 i j) e))
  have hlen:=hlp.len
  clear hlp inv
  by_cases hpass:Tm.passB L1 i j m = true
  ·rw [hpass] at Hp
   have hY:=hid (hyes.out hpass)
   clear hpass hyes hno hye hbad
   gi_wp2_with (first
    | ((try refine ⟨hdd _,?_⟩);gi_at_call 77;refine Hp.out.mono ?_;clear Hp;rintro e W ⟨rfl,rfl⟩))
   exact ⟨KeepsFrom.refl _ _,⟨lp,hY.out,Hinv.out⟩⟩
  ·have hpf:Tm.passB L1 i j m = false:=by simpa using hpass
   rw [hpf] at Hp
   have Hno:=hid (hno.out hpf)
   have Hye:=hid (hye.out hpf)
   have Hbad:=hid (hbad.out hpf)
   clear hpass hpf hyes hno hye hbad
   obtain ⟨ba,oa,rfl,hba,_⟩:=HL1.out.at lpos
   have pgt:=Tm.endAt_gt L1 m
   have ple:=Tm.end_in hL hm
   have hpl:=Tm.part_length hL hm
   have hBd:Below W.heap.size W W.drew:=below_drewN (Below.refl _ W) 1
   have hbWd:=hbW.trans (hBd.mono hbW.size)
   have HmC:=Meet_any (Tm.part L1 m) L2 (some ⟨ba,oa+m,none⟩) a2 (c1 - m) c2 W.drew (((HL1.out.sub m _).below hbWd).mono hbWd.size) ((HL2.out.below hbWd).mono hbWd.size) (by rw [hpl];omega) (by omega) k3 k4
   rw [hpl] at HmC
   have Hm:=hid (CallsIn.inRound l (hcin (n:=0) HmC))
   have q1:(m:Int)≤(Tm.endAt L1 m:Int):=by omega
   have q2:(Tm.endAt L1 m:Int)≤(c1:Int):=by omega
   have q3:¬ c1 - m = 0:=by omega
   have q4:(0:Int)≤(m:Int):=by omega
   have q5:¬ c1 = m:=by omega
   have mixed:Tryz.prog.follows .mixedOrders = true:=by kernel_rfl
   clear HmC hpl
   gi_wp2_with (first
    | ((try refine ⟨hdd _,?_⟩);gi_at_call 77;refine Hp.out.mono ?_;clear Hp;rintro e W ⟨rfl,rfl⟩))
   have hbox:Hid (∀ X:World,PInv W5 (w.heap.size+1+1+1+1+1) (.slice (some ⟨ba,oa,none⟩) L1.length c1) lp X→Boxed X (w.heap.size+1+1+1) 24 (.slice none 0 0)∧Boxed X (w.heap.size+1+1+1+1) 25 (.int .i64 0)):=fun X h=>⟨(h.kp.block _ (by omega)).trans b0,(h.kp.block _ (by omega)).trans b1'⟩
   refine wpIn_mono (Q:=fun e a' W'=>e = .normal∧∃ er is val x,a' = { tmps:=#[.agg #[.slice (some ⟨ba,oa,none⟩) L1.length c1,.slice b1 R1.length d1],.agg #[.slice a2 L2.length c2,.slice b2 R2.length d2],.func (.func 77) #[] #[.pointer (some ⟨B9,0,none⟩),.pointer (some ⟨B4,0,none⟩),.pointer (some ⟨B5,0,none⟩)],.pointer (some ⟨w.heap.size,0,none⟩),.pointer (some ⟨w.heap.size+1,0,none⟩),.pointer (some ⟨w.heap.size+1+1,0,none⟩),.pointer (some ⟨w.heap.size+1+1+1,0,none⟩),.pointer (some ⟨w.heap.size+1+1+1+1,0,none⟩),.pointer (some ⟨w.heap.size+1+1+1+1+1,0,none⟩),.int .i64 (m:Int),.int .i64 (Tm.endAt L1 m:Int),.slice x val.length val.length,.bool is,.int .i64 er,undef,.pointer (some ⟨w.heap.size,0,none⟩),.slice (some ⟨ba,oa,none⟩) L1.length c1,.func (.func 70) #[] #[.pointer (some ⟨w.heap.size+1+1+1+1+1+1,0,none⟩)],.int .i64 (m:Int),.int .i64 (Tm.endAt L1 m:Int),.func (.func 77) #[] #[.pointer (some ⟨B9,0,none⟩),.pointer (some ⟨B4,0,none⟩),.pointer (some ⟨B5,0,none⟩)],.int .i64 (m:Int),.bool false,.tuple #[.slice x val.length val.length,.bool is,.int .i64 er],.pointer (some ⟨w.heap.size,0,none⟩),.slice (some ⟨ba,oa,none⟩) L1.length c1,.int .i64 (m:Int),.int .i64 (Tm.endAt L1 m:Int),.slice (some ⟨ba,oa+m,none⟩) (Tm.endAt L1 m - m) (c1 - m),.pointer (some ⟨w.heap.size+1,0,none⟩),.slice a2 L2.length c2,.tuple #[.slice x val.length val.length,.bool is,.int .i64 er],.slice x val.length val.length,.bool is,.int .i64 er,undef,undef,undef,undef,undef,undef,undef,undef,undef,undef,undef,undef,undef,undef,undef,undef,undef,undef,undef,undef,undef],defers:=[] }∧Tm.MeetSays [(Tm.part L1 m,L2)] er is val∧Subs W'.heap.size W' x val∧Below W.drew.heap.size W.drew W') ?reg ?cont
   case reg =>
    refine wpIn_region_round hro (by kernel_rfl) mixed ?_
    show wpAnyIn F _ _ _ _ _ 15 (Array.replicate 15 false) _ _
    refine wpAnyIn_take (i:=0) (v:=.pointer (some ⟨w.heap.size,0,none⟩)) hro rfl (by kernel_rfl) (by kernel_rfl) (by kernel_rfl) (fun _ _ _ h=>absurd h.1 (by simp)) ⟨Or.inl ⟨by rfl,fun w=>by go_simp⟩,fun _=>rfl⟩ ?_
    refine wpAnyIn_take (i:=2) (v:=.int .i64 (m:Int)) hro rfl (by kernel_rfl) (by kernel_rfl) (by kernel_rfl) (fun _ _ _ h=>absurd h.1 (by simp)) ⟨Or.inl ⟨by rfl,fun w=>by go_simp⟩,fun _=>rfl⟩ ?_
    refine wpAnyIn_take (i:=3) (v:=.int .i64 (Tm.endAt L1 m:Int)) hro rfl (by kernel_rfl) (by kernel_rfl) (by kernel_rfl) (fun _ _ _ h=>absurd h.1 (by simp)) ⟨Or.inl ⟨by rfl,fun w=>by go_simp⟩,fun _=>rfl⟩ ?_
    refine wpAnyIn_take (i:=5) (v:=.pointer (some ⟨w.heap.size+1,0,none⟩)) hro rfl (by kernel_rfl) (by kernel_rfl) (by kernel_rfl) (fun _ _ _ h=>absurd h.1 (by simp)) ⟨Or.inl ⟨by rfl,fun w=>by go_simp⟩,fun _=>rfl⟩ ?_
    refine wpAnyIn_ready (rs:=[1,6]) (by kernel_rfl) (by simp) ?_
    refine AllReadyIn.cons rfl (fun K hK=>?_) (AllReadyIn.cons rfl (fun K hK=>?_) AllReadyIn.nil)
    ·go_simp
     refine hK _ _ ?_
     clear hK K
     refine wpAnyIn_take (i:=4) (v:=.slice (some ⟨ba,oa+m,none⟩) (Tm.endAt L1 m - m) (c1 - m)) hro rfl (by kernel_rfl) (by kernel_rfl) (by kernel_rfl) (fun _ _ _ h=>absurd h.1 (by simp)) ⟨Or.inl ⟨by rfl,fun w=>by go_simp⟩,fun _=>rfl⟩ ?_
     refine wpAnyIn_ready (rs:=[6]) (by kernel_rfl) (by simp) ?_
     refine AllReadyIn.cons rfl (fun K hK=>?_) AllReadyIn.nil
     go_simp
     refine hK _ _ ?_
     clear hK K
     refine wpAnyIn_ready (rs:=[7]) (by kernel_rfl) (by simp) ?_
     refine AllReadyIn.cons rfl (fun K hK=>?_) AllReadyIn.nil
     go_simp
     gi_wp2_with (first | ((try refine ⟨hdd _,?_⟩);gi_at_call 106;refine Hm.out.mono ?_;rintro e W1 ⟨hB1',er,is,val,x,hsay,rfl,hS1⟩))
     refine wpAnyIn_take (i:=8) (v:=.tuple #[.slice x val.length val.length,.bool is,.int .i64 er]) hro rfl (by kernel_rfl) (by kernel_rfl) (by kernel_rfl) (fun _ _ _ h=>absurd h.1 (by simp)) ⟨Or.inl ⟨by rfl,fun w=>by go_simp⟩,fun _=>rfl⟩ ?_
     refine wpAnyIn_take (i:=9) (v:=.slice x val.length val.length) hro rfl (by kernel_rfl) (by kernel_rfl) (by kernel_rfl) (fun _ _ _ h=>absurd h.1 (by simp)) ⟨Or.inl ⟨by rfl,fun w=>by go_simp⟩,fun _=>rfl⟩ ?_
     refine wpAnyIn_take (i:=10) (v:=.bool is) hro rfl (by kernel_rfl) (by kernel_rfl) (by kernel_rfl) (fun _ _ _ h=>absurd h.1 (by simp)) ⟨Or.inl ⟨by rfl,fun w=>by go_simp⟩,fun _=>rfl⟩ ?_
     refine wpAnyIn_take (i:=11) (v:=.int .i64 er) hro rfl (by kernel_rfl) (by kernel_rfl) (by kernel_rfl) (fun _ _ _ h=>absurd h.1 (by simp)) ⟨Or.inl ⟨by rfl,fun w=>by go_simp⟩,fun _=>rfl⟩ ?_
     refine wpAnyIn_take (i:=12) (v:=.slice x val.length val.length) hro rfl (by kernel_rfl) (by kernel_rfl) (by kernel_rfl) (fun _ _ _ h=>absurd h.1 (by simp)) ⟨Or.inl ⟨by rfl,fun w=>by go_simp⟩,fun _=>rfl⟩ ?_
     refine wpAnyIn_take (i:=13) (v:=.bool is) hro rfl (by kernel_rfl) (by kernel_rfl) (by kernel_rfl) (fun _ _ _ h=>absurd h.1 (by simp)) ⟨Or.inl ⟨by rfl,fun w=>by go_simp⟩,fun _=>rfl⟩ ?_
     refine wpAnyIn_ready (rs:=[14]) (by kernel_rfl) (by simp) ?_
     refine AllReadyIn.cons rfl (fun K hK=>?_) AllReadyIn.nil
     go_simp
     refine hK _ _ ?_
     clear hK K
     refine wpAnyIn_done (by kernel_rfl) ?_ _
     exact ⟨rfl,er,is,val,x,rfl,hsay,hS1,hB1'⟩
    ·go_simp
     refine hK _ _ ?_
     clear hK K
     refine wpAnyIn_ready (rs:=[1]) (by kernel_rfl) (by simp) ?_
     refine AllReadyIn.cons rfl (fun K hK=>?_) AllReadyIn.nil
     go_simp
     refine hK _ _ ?_
     clear hK K
     refine wpAnyIn_take (i:=4) (v:=.slice (some ⟨ba,oa+m,none⟩) (Tm.endAt L1 m - m) (c1 - m)) hro rfl (by kernel_rfl) (by kernel_rfl) (by kernel_rfl) (fun _ _ _ h=>absurd h.1 (by simp)) ⟨Or.inl ⟨by rfl,fun w=>by go_simp⟩,fun _=>rfl⟩ ?_
     refine wpAnyIn_ready (rs:=[7]) (by kernel_rfl) (by simp) ?_
     refine AllReadyIn.cons rfl (fun K hK=>?_) AllReadyIn.nil
     go_simp
     gi_wp2_with (first | ((try refine ⟨hdd _,?_⟩);gi_at_call 106;refine Hm.out.mono ?_;rintro e W1 ⟨hB1',er,is,val,x,hsay,rfl,hS1⟩))
     refine wpAnyIn_take (i:=8) (v:=.tuple #[.slice x val.length val.length,.bool is,.int .i64 er]) hro rfl (by kernel_rfl) (by kernel_rfl) (by kernel_rfl) (fun _ _ _ h=>absurd h.1 (by simp)) ⟨Or.inl ⟨by rfl,fun w=>by go_simp⟩,fun _=>rfl⟩ ?_
     refine wpAnyIn_take (i:=9) (v:=.slice x val.length val.length) hro rfl (by kernel_rfl) (by kernel_rfl) (by kernel_rfl) (fun _ _ _ h=>absurd h.1 (by simp)) ⟨Or.inl ⟨by rfl,fun w=>by go_simp⟩,fun _=>rfl⟩ ?_
     refine wpAnyIn_take (i:=10) (v:=.bool is) hro rfl (by kernel_rfl) (by kernel_rfl) (by kernel_rfl) (fun _ _ _ h=>absurd h.1 (by simp)) ⟨Or.inl ⟨by rfl,fun w=>by go_simp⟩,fun _=>rfl⟩ ?_
     refine wpAnyIn_take (i:=11) (v:=.int .i64 er) hro rfl (by kernel_rfl) (by kernel_rfl) (by kernel_rfl) (fun _ _ _ h=>absurd h.1 (by simp)) ⟨Or.inl ⟨by rfl,fun w=>by go_simp⟩,fun _=>rfl⟩ ?_
     refine wpAnyIn_take (i:=12) (v:=.slice x val.length val.length) hro rfl (by kernel_rfl) (by kernel_rfl) (by kernel_rfl) (fun _ _ _ h=>absurd h.1 (by simp)) ⟨Or.inl ⟨by rfl,fun w=>by go_simp⟩,fun _=>rfl⟩ ?_
     refine wpAnyIn_take (i:=13) (v:=.bool is) hro rfl (by kernel_rfl) (by kernel_rfl) (by kernel_rfl) (fun _ _ _ h=>absurd h.1 (by simp)) ⟨Or.inl ⟨by rfl,fun w=>by go_simp⟩,fun _=>rfl⟩ ?_
     refine wpAnyIn_ready (rs:=[14]) (by kernel_rfl) (by simp) ?_
     refine AllReadyIn.cons rfl (fun K hK=>?_) AllReadyIn.nil
     go_simp
     refine hK _ _ ?_
     clear hK K
     refine wpAnyIn_done (by kernel_rfl) ?_ _
     exact ⟨rfl,er,is,val,x,rfl,hsay,hS1,hB1'⟩
   case cont =>
    rintro e a' W1 ⟨rfl,er,is,val,x,rfl,hsay,hS1,hB1⟩
    have hBW1:Below W.heap.size W W1:=hBd.trans (hB1.mono (Nat.le_refl _))
    have inv1:=Hinv.out.below hnn hBW1
    have kf1:KeepsFrom W7.heap.size W W1:=keepsFrom_below hBW1
    have hb1:=hbW.trans (hBW1.mono hbW.size)
    have hsW1:=hBW1.size
    have Hsay:=hid hsay
    have HS1:=hid hS1
    clear hsay hS1 hB1 Hm
    by_cases he:er = 0
    ·subst he
     cases is with
     | false =>
      gi_wp2
      exact ⟨kf1,⟨lp,Hno.out val Hsay.out,inv1⟩⟩
     | true =>
      have e00:W1.cell? ⟨w.heap.size,0,none⟩ = some (.slice (some ⟨ba,oa,none⟩) L1.length c1):=(hBW1.cell (p:=⟨w.heap.size,0,none⟩) (by show w.heap.size < _;omega)).trans c0
      have e01:W1.cell? ⟨w.heap.size,1,none⟩ = some (.slice b1 R1.length d1):=(hBW1.cell (p:=⟨w.heap.size,1,none⟩) (by show w.heap.size < _;omega)).trans c01
      have e10:W1.cell? ⟨w.heap.size+1,0,none⟩ = some (.slice a2 L2.length c2):=(hBW1.cell (p:=⟨w.heap.size+1,0,none⟩) (by show w.heap.size+1 < _;omega)).trans c1'
      have e11:W1.cell? ⟨w.heap.size+1,1,none⟩ = some (.slice b2 R2.length d2):=(hBW1.cell (p:=⟨w.heap.size+1,1,none⟩) (by show w.heap.size+1 < _;omega)).trans c11
      have Hpt:=hid (CallsIn.inRound l (hcin (n:=0) (parted_any val L1 R1 R2 (m:Int) (some ⟨ba,oa,none⟩) b1 a2 b2 x c1 d1 L2.length c2 d2 val.length W1 ((HL1.out.below hb1).mono hb1.size) ((HR1.out.below hb1).mono hb1.size) ((HR2.out.below hb1).mono hb1.size) HS1.out k1 k2)))
      have Hy:=hid (Hye.out val Hsay.out)
      have Hbd:=hid (fun e h0 h=>Hbad.out e h0 (.inr ⟨val,Hsay.out,h⟩))
      clear Hno Hye Hbad
      by_cases hpe:Tm.prtErr val L1 R1 (m:Int) R2 = 0
      ·rw [hpe] at Hpt
       have HY:=hid (Hy.out hpe)
       clear hpe Hbd Hy
       generalize Tm.prtVal val L1 R1 (m:Int) R2 = pv at *
       obtain ⟨pX,pY⟩:=pv
       have hle:=hid (show lp.length≤1000000 by omega)
       gi_wp2_with (first
        | ((try refine ⟨hdd _,?_⟩);gi_at_call 107;refine Hpt.out.mono ?_;clear Hpt;rintro e W2 ⟨v2,u2,rfl,n2,u2n,hB2⟩;obtain ⟨x8,c8,rfl,_⟩:=New.ints n2;obtain ⟨x9,c9,rfl,_⟩:=New.ints u2n;have hs2:=hB2.size;have P0:=Box2.new W2 40 (.slice x8 pX.length c8) (.slice x9 pY.length c9);have y0:=P0.cell0;have y1:=P0.cell1;have hBp:Below W2.heap.size W2 (W2.alloc (.cells #[.slice x8 pX.length c8,.slice x9 pY.length c9] 40)):=(Below.refl _ W2).alloc (Nat.le_refl _) _;have inv4:=(inv1.below hnn hB2).below hnn hBp;obtain ⟨vo,hvo,hNo⟩:=inv4.out;obtain ⟨va,vc,rfl⟩:=hNo.slice;have cO:=hvo.cell;have hBx:Below (W2.alloc (.cells #[.slice x8 pX.length c8,.slice x9 pY.length c9] 40)).heap.size (W2.alloc (.cells #[.slice x8 pX.length c8,.slice x9 pY.length c9] 40)) ((W2.alloc (.cells #[.slice x8 pX.length c8,.slice x9 pY.length c9] 40)).alloc (.cells #[.slice x8 pX.length c8,.slice x9 pY.length c9] 40)):=(Below.refl _ _).alloc (Nat.le_refl _) _;have P1:=Box2.new (W2.alloc (.cells #[.slice x8 pX.length c8,.slice x9 pY.length c9] 40)) 40 (.slice x8 pX.length c8) (.slice x9 pY.length c9);rw [World.size_alloc] at P1;have e0:=P1.cell0;have e1:=P1.cell1)
        | (gi_at_builtin;(refine wpi_append_pair _ rfl _ _ rfl (w.heap.size+1+1+1+1+1) _ lp rfl (hNo.below hBx) (.slice x8 pX.length c8) (.slice x9 pY.length c9) pX pY (W2.heap.size+1) rfl e0 e1 (New.below (New.below (n2.mono (by omega)) hBp) hBx) (New.below (New.below (u2n.mono (by omega)) hBp) hBx) hle.out (by have:=inv4.kp.size;simp;omega) ?_);intro v' w9 hN9 hg9 hs9;obtain ⟨g9,c9',rfl⟩:=hs9;have R9:=p_append (C:=W7.heap.size) hnn hvo hNo inv4.bP inv4.kp hN9 hg9;have cO9:=R9.1.cell;have fO9:=R9.1.frozen))
       exact ⟨((kf1.trans (keepsFrom_below hB2)).trans (keepsFrom_below hBp)).trans R9.2.2,⟨_,HY.out,R9.2.1⟩⟩
      ·have Hbd':=hid (Hbd.out _ hpe rfl)
       have hne:(Tm.prtErr val L1 R1 (m:Int) R2 != 0) = true:=by simpa using hpe
       clear hpe Hbd Hy
       generalize Tm.prtErr val L1 R1 (m:Int) R2 = q at *
       generalize Tm.prtVal val L1 R1 (m:Int) R2 = pv at *
       obtain ⟨pX,pY⟩:=pv
       gi_wp2_with (first
        | ((try refine ⟨hdd _,?_⟩);gi_at_call 107;refine Hpt.out.mono ?_;clear Hpt;rintro e W2 ⟨v2,u2,rfl,n2,u2n,hB2⟩;obtain ⟨x8,c8,rfl,_⟩:=New.ints n2;obtain ⟨x9,c9,rfl,_⟩:=New.ints u2n;have hs2:=hB2.size;have hBp:Below W2.heap.size W2 (W2.alloc (.cells #[.slice x8 pX.length c8,.slice x9 pY.length c9] 40)):=(Below.refl _ W2).alloc (Nat.le_refl _) _;have inv4:=(inv1.below hnn hB2).below hnn hBp;have b04:Boxed (W2.alloc (.cells #[.slice x8 pX.length c8,.slice x9 pY.length c9] 40)) (w.heap.size+1+1+1) 24 (.slice none 0 0):=(hbox.out (W2.alloc (.cells #[.slice x8 pX.length c8,.slice x9 pY.length c9] 40)) inv4).1;have b14:Boxed (W2.alloc (.cells #[.slice x8 pX.length c8,.slice x9 pY.length c9] 40)) (w.heap.size+1+1+1+1) 25 (.int .i64 0):=(hbox.out (W2.alloc (.cells #[.slice x8 pX.length c8,.slice x9 pY.length c9] 40)) inv4).2;have k0:=b04.cell;have k1:=b14.cell;have f0:=b04.frozen;have f1:=b14.frozen;have b14':Boxed ((W2.alloc (.cells #[.slice x8 pX.length c8,.slice x9 pY.length c9] 40)).setCell ⟨w.heap.size+1+1+1,0,none⟩ (.slice none 0 0)) (w.heap.size+1+1+1+1) 25 (.int .i64 0):=(Below.heap_setCell (W2.alloc (.cells #[.slice x8 pX.length c8,.slice x9 pY.length c9] 40)) ⟨w.heap.size+1+1+1,0,none⟩ _ (w.heap.size+1+1+1+1) (by show w.heap.size+1+1+1+1≠w.heap.size+1+1+1;omega)).trans b14;have k1':=b14'.cell;have f1':=b14'.frozen))
       refine ⟨(((kf1.trans (keepsFrom_below hB2)).trans (keepsFrom_below hBp)).trans ((KeepsOthers.setCell _ _ _).from _)).trans ((KeepsOthers.setCell _ _ _).from _),rfl,?_,_,Hbd'.out,?_,?_⟩
       ·exact (((hb1.trans (hB2.mono hb1.size)).trans (hBp.mono (by have:=hb1.size;omega))).setCell (p:=⟨w.heap.size+1+1+1,0,none⟩) (by show w.heap.size≤w.heap.size+1+1+1;omega) _).setCell (p:=⟨w.heap.size+1+1+1+1,0,none⟩) (by show w.heap.size≤w.heap.size+1+1+1+1;omega) _
       ·exact (Below.heap_setCell _ ⟨w.heap.size+1+1+1+1,0,none⟩ _ (w.heap.size+1+1+1) (by show w.heap.size+1+1+1≠w.heap.size+1+1+1+1;omega)).trans (b04.set _)
       ·exact b14'.set _
    ·have Hb:=hid (Hbad.out er he (.inl ⟨is,val,Hsay.out⟩))
     have hne:(er != 0) = true:=by simpa using he
     clear he Hno Hye Hbad
     have b01:Boxed W1 (w.heap.size+1+1+1) 24 (.slice none 0 0):=(hbox.out W1 inv1).1
     have b11:Boxed W1 (w.heap.size+1+1+1+1) 25 (.int .i64 0):=(hbox.out W1 inv1).2
     have k0:=b01.cell
     have k1:=b11.cell
     have f0:=b01.frozen
     have f1:=b11.frozen
     have b11':Boxed (W1.setCell ⟨w.heap.size+1+1+1,0,none⟩ (.slice none 0 0)) (w.heap.size+1+1+1+1) 25 (.int .i64 0):=(Below.heap_setCell W1 ⟨w.heap.size+1+1+1,0,none⟩ _ (w.heap.size+1+1+1+1) (by show w.heap.size+1+1+1+1≠w.heap.size+1+1+1;omega)).trans b11
     have k1':=b11'.cell
     have f1':=b11'.frozen
     gi_wp2
     refine ⟨(kf1.trans ((KeepsOthers.setCell _ _ _).from _)).trans ((KeepsOthers.setCell _ _ _).from _),rfl,?_,_,Hb.out,?_,?_⟩
     ·exact ((hb1).setCell (p:=⟨w.heap.size+1+1+1,0,none⟩) (by show w.heap.size≤w.heap.size+1+1+1;omega) _).setCell (p:=⟨w.heap.size+1+1+1+1,0,none⟩) (by show w.heap.size≤w.heap.size+1+1+1+1;omega) _
     ·exact (Below.heap_setCell _ ⟨w.heap.size+1+1+1+1,0,none⟩ _ (w.heap.size+1+1+1) (by show w.heap.size+1+1+1≠w.heap.size+1+1+1+1;omega)).trans (b01.set _)
     ·exact b11'.set _
 case done =>
  rintro D W hD ⟨lp,hlp,inv⟩ hDd
  obtain ⟨v,hv,hN⟩:=inv.out
  obtain ⟨va,vc,rfl⟩:=hN.slice
  have cO:=hv.cell
  have b0W:Boxed W (w.heap.size+1+1+1) 24 (.slice none 0 0):=(inv.kp.block _ (by omega)).trans b0
  have b1W:Boxed W (w.heap.size+1+1+1+1) 25 (.int .i64 0):=(inv.kp.block _ (by omega)).trans b1'
  have k0:=b0W.cell
  have k1w:=b1W.cell
  have f0:=b0W.frozen
  have f1:=b1W.frozen
  have b0X:=b0W.set (.slice va lp.length vc)
  have b1X:Boxed (W.setCell ⟨w.heap.size+1+1+1,0,none⟩ (.slice va lp.length vc)) (w.heap.size+1+1+1+1) 25 (.int .i64 0):=(Below.heap_setCell W ⟨w.heap.size+1+1+1,0,none⟩ _ (w.heap.size+1+1+1+1) (by show w.heap.size+1+1+1+1≠w.heap.size+1+1+1;omega)).trans b1W
  have k1X:=b1X.cell
  have f1X:=b1X.frozen
  rw [hs7] at hD
  have HN:=hid hN
  have Hkp:=hid inv.kp
  have Hlp:=hid hlp
  clear hN inv hlp
  generalize hln:lp.length = ln at *
  clear hln
  gi_wp2
  have hDd2:((W.setCell ⟨w.heap.size+1+1+1,0,none⟩ (.slice va ln vc)).setCell ⟨w.heap.size+1+1+1+1,0,none⟩ (.int .i64 0)).heap[D]? = some (.deferred (some [])) :=
   (Below.heap_setCell _ ⟨w.heap.size+1+1+1+1,0,none⟩ _ D (show D≠w.heap.size+1+1+1+1 by omega)).trans ((Below.heap_setCell W ⟨w.heap.size+1+1+1,0,none⟩ _ D (show D≠w.heap.size+1+1+1 by omega)).trans hDd)
  have b0Y:Boxed ((W.setCell ⟨w.heap.size+1+1+1,0,none⟩ (.slice va ln vc)).setCell ⟨w.heap.size+1+1+1+1,0,none⟩ (.int .i64 0)) (w.heap.size+1+1+1) 24 (.slice va ln vc) :=
   (Below.heap_setCell _ ⟨w.heap.size+1+1+1+1,0,none⟩ _ (w.heap.size+1+1+1) (by show w.heap.size+1+1+1≠w.heap.size+1+1+1+1;omega)).trans b0X
  have b1Y:=b1X.set (.int .i64 0)
  refine ⟨by simp,.inl ⟨_,_,rfl,run_takeDeferred hDd2,?_⟩⟩
  refine ⟨_,results_boxP rfl rfl rfl ((World.cell?_of_block (a:=⟨w.heap.size+1+1+1,0,none⟩) (World.putObj_heap_other (show w.heap.size+1+1+1≠D by omega))).trans b0Y.cell) ((World.cell?_of_block (a:=⟨w.heap.size+1+1+1+1,0,none⟩) (World.putObj_heap_other (show w.heap.size+1+1+1+1≠D by omega))).trans b1Y.cell),?_⟩
  refine ⟨0,lp,_,.inl ⟨rfl,Hlp.out⟩,rfl,?_,?_⟩
  ·have h1:=((HN.out.set b0W (by decide) (by decide) (.slice va ln vc)).set b1X (by decide) (by decide) (.int .i64 0)).other (grownBy_putObj' _ D (.deferred none)) (fun r e=>by cases e;exact ⟨_,hDd2,rfl⟩)
   exact h1.mono (by omega)
  ·have h0:=HB5.out.trans (Hkp.out.mono (by omega))
   have h1:=(h0.setCell (p:=⟨w.heap.size+1+1+1,0,none⟩) (by show w.heap.size≤w.heap.size+1+1+1;omega) (.slice va ln vc)).setCell (p:=⟨w.heap.size+1+1+1+1,0,none⟩) (by show w.heap.size≤w.heap.size+1+1+1+1;omega) (.int .i64 0)
   exact ⟨h1.os,h1.tape,h1.output,by have:=h1.size;simpa using this,fun k hk=>(World.putObj_heap_other (by omega)).trans (h1.block k hk)⟩
 case stop =>
  rintro D c W hD ⟨rfl,kp,er,hbad,c0,c1'⟩ hDd
  rw [hs7] at hD
  have k0:=c0.cell
  have k1w:=c1'.cell
  gi_wp2
  refine ⟨by simp,.inl ⟨_,_,rfl,run_takeDeferred hDd,?_⟩⟩
  refine ⟨_,results_boxP rfl rfl rfl ((World.cell?_of_block (a:=⟨w.heap.size+1+1+1,0,none⟩) (World.putObj_heap_other (show w.heap.size+1+1+1≠D by omega))).trans k0) ((World.cell?_of_block (a:=⟨w.heap.size+1+1+1+1,0,none⟩) (World.putObj_heap_other (show w.heap.size+1+1+1+1≠D by omega))).trans k1w),?_⟩
  exact ⟨er,[],_,.inr ⟨hbad,rfl⟩,rfl,NewP.nil _ _,⟨kp.os,kp.tape,kp.output,by have:=kp.size;simpa using this,fun k hk=>(World.putObj_heap_other (by omega)).trans (kp.block k hk)⟩⟩
 case panic=>exact fun _ _ _ _ h=>h.elim
end Go.Proofs.YtglohanbpjaieaaGreat
namespace Go.Proofs.YtglohanbpjaieaaGreat
open Go.Proofs Go.RowKit Go.Shelf Go.Maps
theorem hasRule_any (a:Option Addr) (n cap:Nat) (k:Int) (w:World):Calls Tryz.prog 76 #[.slice a n cap,.int .i64 k] w fun e w'=>e = .returned (.bool (decide (0≤k∧k < (n:Int))))∧w' = w:=by
 by_cases h0:0≤k
 ·by_cases h1:k < (n:Int)
  ·go_enter Tryz.func76,Tryz.ntmps76
   go_wp2
   go_ret
   exact ⟨by simp [h0,h1],rfl⟩
  ·have h1':decide (k < (n:Int)) = false:=by simpa using h1
   go_enter Tryz.func76,Tryz.ntmps76
   go_wp2
   go_ret
   exact ⟨by simp,rfl⟩
 ·have h0':decide (0≤k) = false:=by simpa using h0
  go_enter Tryz.func76,Tryz.ntmps76
  go_wp2
  go_ret
  exact ⟨by simp,rfl⟩
def Tm.OfSays (rs:RuleL) (i j er:Int) (ps:PairL):Prop :=
 (Tm.rulesErr rs≠0∧er = Tm.rulesErr rs∧ps = []) ∨
 (Tm.rulesErr rs = 0∧¬ (0≤i∧i < (rs.length:Int)∧0≤j∧j < (rs.length:Int))∧er = 5∧ps = []) ∨
 (Tm.rulesErr rs = 0∧∃ a b:Nat,a < rs.length∧b < rs.length∧i = (a:Int)∧j = (b:Int)∧Tm.LapsSays (rs[a]?.getD ([],[])).1 (rs[a]?.getD ([],[])).2 (Tm.others (rs[b]?.getD ([],[])).1) (Tm.others (rs[b]?.getD ([],[])).2) (Tm.passB (rs[a]?.getD ([],[])).1 i j) er ps)
def OfAns (rs:RuleL) (i j:Int) (w:World) (e:Ending) (w':World):Prop:=∃ er ps v,Tm.OfSays rs i j er ps∧e = .returned (.tuple #[v,.int .i64 er])∧NewP w.heap.size w' v ps∧Below w.heap.size w w'
set_option maxRecDepth 100000 in
set_option maxHeartbeats 4000000 in
theorem of_right (rs:RuleL) (i j:Nat) (hi:i < rs.length) (hj:j < rs.length) (a:Option Addr) (cap:Nat) (w:World) (hr:Tm.rulesErr rs = 0) (hR:RulesAt w.heap.size w a rs) :
 Calls Tryz.prog 53 #[.slice a rs.length cap,.int .i64 (i:Int),.int .i64 (j:Int)] w fun e w'=>OfAns rs (i:Int) (j:Int) w e w':=by
 have hmf:∀ (fn:Fn) (first cap:Array Value) (w:World),(Instr.makeFunc fn first cap).run Tryz.prog w = .ok (.func fn first cap) w:=fun _ _ _ _=>rfl
 have hi':(i:Int) < (rs.length:Int):=by omega
 have hj':(j:Int) < (rs.length:Int):=by omega
 obtain ⟨h8,hall⟩:=Tm.rulesErr_ok hr
 obtain ⟨eL,eR,_⟩:=Tm.ruleErr_ok (hall i hi)
 obtain ⟨eL2,eR2,_⟩:=Tm.ruleErr_ok (hall j hj)
 obtain ⟨W2,hW2⟩:∃ W2,(w.alloc (.cells #[.int .i64 (i:Int)] 3)).alloc (.cells #[.int .i64 (j:Int)] 3) = W2:=⟨_,rfl⟩
 have hB2:Below w.heap.size w W2:=by rw [← hW2];exact ((Below.refl _ w).alloc (Nat.le_refl _) _).alloc (by simp) _
 have hs2:W2.heap.size = w.heap.size+2:=by rw [← hW2];simp
 have bi:Boxed W2 w.heap.size 3 (.int .i64 (i:Int)):=by rw [← hW2];exact (Boxed.new w _ _).alloc _
 have bj:Boxed W2 (w.heap.size+1) 3 (.int .i64 (j:Int)):=by
  rw [← hW2]
  have h:=Boxed.new (w.alloc (.cells #[.int .i64 (i:Int)] 3)) 3 (.int .i64 (j:Int))
  rwa [World.size_alloc] at h
 have C1:=hid (rulesCheck_any rs a cap W2 ((hR.below hB2).mono hB2.size))
 rw [hr] at C1
 have hans:=hid (fun er ps (h:Tm.LapsSays (rs[i]?.getD ([],[])).1 (rs[i]?.getD ([],[])).2 (Tm.others (rs[j]?.getD ([],[])).1) (Tm.others (rs[j]?.getD ([],[])).2) (Tm.passB (rs[i]?.getD ([],[])).1 (i:Int) (j:Int)) er ps)=>(.inr (.inr ⟨hr,i,j,hi,hj,rfl,rfl,h⟩):Tm.OfSays rs (i:Int) (j:Int) er ps))
 obtain ⟨b,off,rfl,hb,aL,cL,aR,cR,g1,g2,g3,g4,g5,g6,g7,g8⟩:=hR i hi
 obtain ⟨b',off',e',hb',aL2,cL2,aR2,cR2,p1,p2,p3,p4,p5,p6,p7,p8⟩:=hR j hj
 cases e'
 generalize (rs[i]?.getD ([],[])).1 = L1 at *
 generalize (rs[i]?.getD ([],[])).2 = R1 at *
 generalize (rs[j]?.getD ([],[])).1 = L2 at *
 generalize (rs[j]?.getD ([],[])).2 = R2 at *
 have hone:decide (0≤(i:Int)∧(i:Int) < (rs.length:Int)) = true:=by simp;omega
 have htwo:decide (0≤(j:Int)∧(j:Int) < (rs.length:Int)) = true:=by simp;omega
 have Hh1:=hid (fun W=>hasRule_any (some ⟨b,off,none⟩) rs.length cap (i:Int) W)
 have Hh2:=hid (fun W=>hasRule_any (some ⟨b,off,none⟩) rs.length cap (j:Int) W)
 rw [hone] at Hh1
 rw [htwo] at Hh2
 have HW2:=hid hW2
 have Hall:=hid hall
 clear hW2 hr hR hone htwo hall
 go_enter Tryz.func53,Tryz.ntmps53
 go_wp2_with fail
 rw [HW2.out]
 refine C1.out.mono ?_
 rintro e w1 ⟨rfl,b1⟩
 have B1:=hB2.trans (b1.mono hB2.size)
 have hsz1:=b1.size
 have bi1:Boxed w1 w.heap.size 3 (.int .i64 (i:Int)):=(b1.block _ bi.lt).trans bi
 have bj1:Boxed w1 (w.heap.size+1) 3 (.int .i64 (j:Int)):=(b1.block _ bj.lt).trans bj
 have ci:=bi1.cell
 have cj:=bj1.cell
 clear C1
 go_wp2_with fail
 refine (Hh1.out w1).mono ?_
 rintro e w1 ⟨rfl,rfl⟩
 go_wp2_with fail
 refine (Hh2.out w1).mono ?_
 rintro e w1 ⟨rfl,rfl⟩
 have d1:=(B1.cell (p:=⟨b,off+i * 2,none⟩) hb).trans g1
 have d2:=(B1.cell (p:=⟨b,off+i * 2+1,none⟩) hb).trans g2
 have d3:=(B1.cell (p:=⟨b,off+j * 2,none⟩) hb).trans p1
 have d4:=(B1.cell (p:=⟨b,off+j * 2+1,none⟩) hb).trans p2
 clear Hh1 Hh2
 go_wp2_with fail
 obtain ⟨W3,hW3⟩:∃ W3,w1.alloc (.cells #[.slice aL L1.length cL] 35) = W3:=⟨_,rfl⟩
 rw [hW3]
 have bl:Boxed W3 w1.heap.size 35 (.slice aL L1.length cL):=by rw [← hW3];exact Boxed.new w1 _ _
 have hB3:Below w1.heap.size w1 W3:=by rw [← hW3];exact (Below.refl _ _).alloc (Nat.le_refl _) _
 have hs3:W3.heap.size = w1.heap.size+1:=by rw [← hW3];simp
 have BW3:=B1.trans (hB3.mono B1.size)
 have hS:Hid (∀ w',Below W3.heap.size W3 w'→w'.cell? ⟨w.heap.size,0,none⟩ = some (.int .i64 (i:Int))∧w'.cell? ⟨w.heap.size+1,0,none⟩ = some (.int .i64 (j:Int))∧w'.cell? ⟨b,off+i * 2,none⟩ = some (.slice aL L1.length cL)∧w'.cell? ⟨b,off+i * 2+1,none⟩ = some (.slice aR R1.length cR)∧w'.cell? ⟨b,off+j * 2,none⟩ = some (.slice aL2 L2.length cL2)∧w'.cell? ⟨b,off+j * 2+1,none⟩ = some (.slice aR2 R2.length cR2)):=fun w' h=>by
  have h13:=hB3.trans (h.mono hB3.size)
  exact ⟨(h13.cell (p:=⟨w.heap.size,0,none⟩) (by show w.heap.size < _;omega)).trans ci,(h13.cell (p:=⟨w.heap.size+1,0,none⟩) (by show w.heap.size+1 < _;omega)).trans cj,(h13.cell (p:=⟨b,off+i * 2,none⟩) (by show b < _;omega)).trans d1,(h13.cell (p:=⟨b,off+i * 2+1,none⟩) (by show b < _;omega)).trans d2,(h13.cell (p:=⟨b,off+j * 2,none⟩) (by show b < _;omega)).trans d3,(h13.cell (p:=⟨b,off+j * 2+1,none⟩) (by show b < _;omega)).trans d4⟩
 have HA:=hid (fun X (hX:Below W3.heap.size W3 X)=>apart_any L2 R2 aL2 aR2 cL2 cR2 X (by have h:=BW3.trans (hX.mono BW3.size);exact (p3.below h).mono h.size) (by have h:=BW3.trans (hX.mono BW3.size);exact (p4.below h).mono h.size) (by have:=Tm.err_len eL2;omega) (by have:=Tm.err_len eR2;omega) (fun k hk=>by have:=Tm.known8 eL2 k hk;omega) (fun k hk=>by have:=Tm.known8 eR2 k hk;omega))
 have HLp:=hid (fun X (hX:Below W3.heap.size W3 X) x c y d (hx:Ints X.heap.size X x (Tm.others L2)) (hy:Ints X.heap.size X y (Tm.others R2)) (q1:(Tm.others L2).length≤c) (q2:c≤maxLen)=>laps_any L1 R1 (Tm.others L2) (Tm.others R2) aL aR x y cL cR c d (i:Int) (j:Int) w1.heap.size w.heap.size (w.heap.size+1) X eL (by have h:=BW3.trans (hX.mono BW3.size);exact (g3.below h).mono h.size) (by have h:=BW3.trans (hX.mono BW3.size);exact (g4.below h).mono h.size) hx hy g5 g6 q1 q2 ((hX.cell (p:=⟨w1.heap.size,0,none⟩) (by show w1.heap.size < _;omega)).trans bl.cell) (hS.out X hX).1 (hS.out X hX).2.1)
 have hS0:=hS.out _ (Below.refl _ W3)
 have HBW:=hid BW3
 clear hW3 hB3 bl ci cj d1 d2 d3 d4 g1 g2 g3 g4 p1 p2 p3 p4 bi bj bi1 bj1 eL eR eL2 eR2 B1 b1 hB2
 go_region_held3 (fun w'=>w'.cell? ⟨w.heap.size,0,none⟩ = some (.int .i64 (i:Int))∧w'.cell? ⟨w.heap.size+1,0,none⟩ = some (.int .i64 (j:Int))∧w'.cell? ⟨b,off+i * 2,none⟩ = some (.slice aL L1.length cL)∧w'.cell? ⟨b,off+i * 2+1,none⟩ = some (.slice aR R1.length cR)∧w'.cell? ⟨b,off+j * 2,none⟩ = some (.slice aL2 L2.length cL2)∧w'.cell? ⟨b,off+j * 2+1,none⟩ = some (.slice aR2 R2.length cR2)) (first | assumption | exact hS0) (first
  | (go_at_call 79;refine (HA.out _ (below_drewN (Below.refl _ W3) 1)).mono ?_;rintro e w4 ⟨v4,u4,rfl,n4,m4,b4⟩;obtain ⟨x4,c4,rfl,i4,r4,s4⟩:=New.ints n4;obtain ⟨y4,d4,rfl,j4,_⟩:=New.ints m4;have B4:Below W3.heap.size W3 w4:=(below_drewN (Below.refl _ W3) 1).trans (b4.mono (by exact Nat.le_refl _));have hS1:=hS.out _ B4)
  | (go_at_call 78;refine (HLp.out _ B4 x4 c4 y4 d4 i4 j4 r4 s4).mono ?_;rintro e w5 ⟨er,ps,v5,hls,rfl,n5,b5⟩;have B5:Below W3.heap.size W3 w5:=B4.trans (b5.mono B4.size);have hS2:=hS.out _ B5))
 all_goals (
  go_wp2
  go_ret2
  exact ⟨er,ps,_,hans.out er ps hls,rfl,n5.mono (by have:=HBW.out.size;have:=B4.size;omega),HBW.out.trans (B5.mono HBW.out.size)⟩)
set_option maxRecDepth 100000 in
set_option maxHeartbeats 2000000 in
theorem Of_any (rs:RuleL) (i j:Int) (a:Option Addr) (cap:Nat) (w:World) (hR:RulesAt w.heap.size w a rs) :
 Calls Tryz.prog 53 #[.slice a rs.length cap,.int .i64 i,.int .i64 j] w fun e w'=>OfAns rs i j w e w':=by
 obtain ⟨W2,hW2⟩:∃ W2,(w.alloc (.cells #[.int .i64 i] 3)).alloc (.cells #[.int .i64 j] 3) = W2:=⟨_,rfl⟩
 have hB2:Below w.heap.size w W2:=by rw [← hW2];exact ((Below.refl _ w).alloc (Nat.le_refl _) _).alloc (by simp) _
 have hs2:W2.heap.size = w.heap.size+2:=by rw [← hW2];simp
 have bi:Boxed W2 w.heap.size 3 (.int .i64 i):=by rw [← hW2];exact (Boxed.new w _ _).alloc _
 have bj:Boxed W2 (w.heap.size+1) 3 (.int .i64 j):=by
  rw [← hW2]
  have h:=Boxed.new (w.alloc (.cells #[.int .i64 i] 3)) 3 (.int .i64 j)
  rwa [World.size_alloc] at h
 have C1:=hid (rulesCheck_any rs a cap W2 ((hR.below hB2).mono hB2.size))
 have HW2:=hid hW2
 clear hW2
 by_cases hr:Tm.rulesErr rs = 0
 ·by_cases hi:0≤i∧i < (rs.length:Int)
  ·by_cases hj:0≤j∧j < (rs.length:Int)
   ·obtain ⟨i',rfl⟩:∃ k:Nat,i = (k:Int):=⟨i.toNat,by omega⟩
    obtain ⟨j',rfl⟩:∃ k:Nat,j = (k:Int):=⟨j.toNat,by omega⟩
    exact of_right rs i' j' (by omega) (by omega) a cap w hr hR
   ·have hone:decide (0≤i∧i < (rs.length:Int)) = true:=by simpa using hi
    have htwo:decide (0≤j∧j < (rs.length:Int)) = false:=by simpa using hj
    have Hh1:=hid (fun W=>hasRule_any a rs.length cap i W)
    have Hh2:=hid (fun W=>hasRule_any a rs.length cap j W)
    rw [hone] at Hh1
    rw [htwo] at Hh2
    have Hsay:Hid (Tm.OfSays rs i j 5 []):=.inr (.inl ⟨hr,fun h=>hj ⟨h.2.2.1,h.2.2.2⟩,rfl,rfl⟩)
    rw [hr] at C1
    clear hone htwo hr hR hi hj
    go_enter Tryz.func53,Tryz.ntmps53
    go_wp2_with fail
    rw [HW2.out]
    refine C1.out.mono ?_
    rintro e w1 ⟨rfl,b1⟩
    have B1:=hB2.trans (b1.mono hB2.size)
    have bi1:Boxed w1 w.heap.size 3 (.int .i64 i):=(b1.block _ bi.lt).trans bi
    have bj1:Boxed w1 (w.heap.size+1) 3 (.int .i64 j):=(b1.block _ bj.lt).trans bj
    have ci:=bi1.cell
    have cj:=bj1.cell
    clear C1
    go_wp2_with fail
    refine (Hh1.out w1).mono ?_
    rintro e w1 ⟨rfl,rfl⟩
    go_wp2_with fail
    refine (Hh2.out w1).mono ?_
    rintro e w1 ⟨rfl,rfl⟩
    go_wp2
    go_ret2
    exact ⟨5,[],_,Hsay.out,rfl,NewP.nil _ _,B1⟩
  ·have hone:decide (0≤i∧i < (rs.length:Int)) = false:=by simpa using hi
   have Hh1:=hid (fun W=>hasRule_any a rs.length cap i W)
   rw [hone] at Hh1
   have Hsay:Hid (Tm.OfSays rs i j 5 []):=.inr (.inl ⟨hr,fun h=>hi ⟨h.1,h.2.1⟩,rfl,rfl⟩)
   rw [hr] at C1
   clear hone hr hR hi
   go_enter Tryz.func53,Tryz.ntmps53
   go_wp2_with fail
   rw [HW2.out]
   refine C1.out.mono ?_
   rintro e w1 ⟨rfl,b1⟩
   have B1:=hB2.trans (b1.mono hB2.size)
   have bi1:Boxed w1 w.heap.size 3 (.int .i64 i):=(b1.block _ bi.lt).trans bi
   have bj1:Boxed w1 (w.heap.size+1) 3 (.int .i64 j):=(b1.block _ bj.lt).trans bj
   have ci:=bi1.cell
   have cj:=bj1.cell
   clear C1
   go_wp2_with fail
   refine (Hh1.out w1).mono ?_
   rintro e w1 ⟨rfl,rfl⟩
   go_wp2
   go_ret2
   exact ⟨5,[],_,Hsay.out,rfl,NewP.nil _ _,B1⟩
 ·have Hsay:Hid (Tm.OfSays rs i j (Tm.rulesErr rs) []):=.inl ⟨hr,rfl,rfl⟩
  have hn:(Tm.rulesErr rs != 0) = true:=by simpa using hr
  clear hr hR
  unfold OfAns
  generalize Tm.rulesErr rs = q at *
  go_enter Tryz.func53,Tryz.ntmps53
  go_wp2_with fail
  rw [HW2.out]
  refine C1.out.mono ?_
  rintro e w1 ⟨rfl,b1⟩
  have B1:=hB2.trans (b1.mono hB2.size)
  have bi1:Boxed w1 w.heap.size 3 (.int .i64 i):=(b1.block _ bi.lt).trans bi
  have bj1:Boxed w1 (w.heap.size+1) 3 (.int .i64 j):=(b1.block _ bj.lt).trans bj
  have ci:=bi1.cell
  have cj:=bj1.cell
  clear C1
  go_wp2
  go_ret2
  exact ⟨_,[],_,Hsay.out,rfl,NewP.nil _ _,B1⟩
theorem Tm.OfSays.len {rs:RuleL} {i j:Nat} {ps:PairL} (h:Tm.OfSays rs (i:Int) (j:Int) 0 ps):rs.length≤8∧ps.length≤30:=by
 rcases h with ⟨h1,h2,_⟩ | ⟨_,_,h2,_⟩ | ⟨h1,a,b,ha,hb,_,_,h3⟩
 ·exact absurd h2.symm h1
 ·omega
 ·obtain ⟨h8,hall⟩:=Tm.rulesErr_ok h1
  obtain ⟨eL,_⟩:=Tm.ruleErr_ok (hall a ha)
  have:=Tm.err_len eL
  refine ⟨h8,?_⟩
  rcases h3 with ⟨_,h4⟩ | ⟨h4,_⟩
  ·have:=h4.len
   omega
  ·exact absurd rfl h4.1
theorem own_keep {W W':World} {base:Nat} {e:TypeId} {size:Nat} {v:Value} {n:Nat} {xs:List Value} (h:W.ownsRow base e size v n xs) (hk:∀ q,v.ownBlock = some q→W'.heap[q]? = W.heap[q]?):W'.ownsRow base e size v n xs:=by
 refine ⟨h.1,?_⟩
 rcases h.2 with h1 | ⟨g,cap,cur,rfl,h2,h3,h4⟩
 ·exact .inl h1
 ·exact .inr ⟨g,cap,cur,rfl,h2,(hk g rfl).trans h3,h4⟩
theorem own_type {W:World} {base:Nat} {e:TypeId} {size:Nat} {v:Value} {n:Nat} {xs:List Value} (h:W.ownsRow base e size v n xs) {q:Nat} (hq:v.ownBlock = some q):∃ cur,W.heap[q]? = some (.cells cur e (0,0)):=by
 rcases h.2 with ⟨rfl,_⟩ | ⟨g,cap,cur,rfl,h2,h3,h4⟩
 ·cases hq
 ·cases hq;exact ⟨cur,h3⟩
def IntR (base:Nat) (W:World) (a:Option Addr) (zs:List Int):Prop:=∀ j,j < zs.length→∃ b off,a = some ⟨b,off,none⟩∧(b < base∨∃ cs p,W.heap[b]? = some (.cells cs 3 p))∧b < W.heap.size∧W.cell? ⟨b,off+j,none⟩ = some (.int .i64 (zs[j]?.getD 0))
theorem IntR.ints {base:Nat} {W:World} {a:Option Addr} {zs:List Int} (h:IntR base W a zs):Ints W.heap.size W a zs:=fun j hj=>by
 obtain ⟨b,off,e,_,hb,hc⟩:=h j hj
 exact ⟨b,off,e,hb,hc⟩
theorem IntR.keep {base:Nat} {W W':World} {a:Option Addr} {zs:List Int} (h:IntR base W a zs) (hs:W.heap.size≤W'.heap.size) (hk:∀ b,b < W.heap.size→(b < base∨∃ cs p,W.heap[b]? = some (.cells cs 3 p))→W'.heap[b]? = W.heap[b]?):IntR base W' a zs:=fun j hj=>by
 obtain ⟨b,off,e,hor,hlt,hc⟩:=h j hj
 have hb:=hk b hlt hor
 exact ⟨b,off,e,hor.imp id (fun ⟨cs,p,h⟩=>⟨cs,p,hb.trans h⟩),by omega,(World.cell?_of_block (a:=⟨b,off+j,none⟩) hb).trans hc⟩
theorem IntR.below {base:Nat} {W W':World} {a:Option Addr} {zs:List Int} (h:IntR base W a zs) (hB:Below W.heap.size W W'):IntR base W' a zs:=h.keep hB.size fun b hb _=>hB.block b hb
theorem IntR.old {base:Nat} {w W:World} {a:Option Addr} {zs:List Int} (h:Ints base w a zs) (hw:base≤W.heap.size) (hB:Below base w W):IntR base W a zs:=fun j hj=>by
 obtain ⟨b,off,e,hb,hc⟩:=h j hj
 exact ⟨b,off,e,.inl hb,by omega,(hB.cell (p:=⟨b,off+j,none⟩) hb).trans hc⟩
theorem IntR.new {base b2:Nat} {W:World} {v:Value} {zs:List Int} (h:New b2 W v zs):∃ a c,v = .slice a zs.length c∧IntR base W a zs∧zs.length≤c∧c≤maxLen:=by
 rcases h.2 with ⟨rfl,hn⟩ | ⟨g,cap,cur,rfl,hb,hg,h1,h2,h3,h4⟩
 ·exact ⟨none,0,by rw [hn],fun j hj=>by omega,by omega,by unfold maxLen;omega⟩
 ·refine ⟨_,cap,rfl,fun j hj=>⟨g,0,rfl,.inr ⟨cur,_,hg⟩,(Array.getElem?_eq_some_iff.1 hg).1,?_⟩,h1,h2⟩
  have:=World.ownsRow.cellAt (xs:=zs.map (Value.int .i64)) h j (by omega)
  rw [Nat.zero_add,this]
  simp [hj]
theorem IntR.grown {base:Nat} {W W':World} {a:Option Addr} {zs:List Int} {row:Option Nat} {e:TypeId} (h:IntR base W a zs) (he:e≠3) (hg:W.grownBy W' row) (hr:∀ k,row = some k→base≤k∧∃ cs,W.heap[k]? = some (.cells cs e (0,0))):IntR base W' a zs :=
 h.keep hg.size fun b hb hor=>hg.block b hb fun e'=>by
  obtain ⟨h1,cs,h2⟩:=hr b e'.symm
  rcases hor with h | ⟨cs',p',h'⟩
  ·omega
  ·rw [h'] at h2
   simp only [Option.some.injEq,Obj.cells.injEq] at h2
   exact he h2.2.1.symm
def NewX (e:TypeId) (sb eb:Nat) (W:World) (v:Value) (ps:PairL):Prop :=
 ∃ us:List Value,W.ownsRow sb e 2 v ps.length us∧∀ j,j < ps.length→∃ aL cL aR cR,us[j * 2]? = some (.slice aL (ps[j]?.getD ([],[])).1.length cL)∧us[j * 2+1]? = some (.slice aR (ps[j]?.getD ([],[])).2.length cR)∧IntR eb W aL (ps[j]?.getD ([],[])).1∧IntR eb W aR (ps[j]?.getD ([],[])).2∧(ps[j]?.getD ([],[])).1.length≤cL∧cL≤maxLen∧(ps[j]?.getD ([],[])).2.length≤cR∧cR≤maxLen
theorem NewX.nil (e:TypeId) (sb eb:Nat) (W:World):NewX e sb eb W (.slice none 0 0) []:=⟨[],World.ownsRow_nil _ _ _ _,fun j hj=>by simp at hj⟩
theorem NewX.slice {e:TypeId} {sb eb:Nat} {W:World} {v:Value} {ps:PairL} (h:NewX e sb eb W v ps):∃ a cap,v = .slice a ps.length cap:=by
 obtain ⟨us,h1,_⟩:=h
 rcases h1.2 with ⟨rfl,h0⟩ | ⟨g,cap,cur,rfl,_⟩
 ·exact ⟨none,0,by rw [h0]⟩
 ·exact ⟨_,_,rfl⟩
theorem NewX.block {e:TypeId} {sb eb:Nat} {W:World} {v:Value} {ps:PairL} (h:NewX e sb eb W v ps) {k:Nat} (hk:v.ownBlock = some k):sb≤k∧k < W.heap.size∧∃ cs,W.heap[k]? = some (.cells cs e (0,0)):=by
 obtain ⟨us,h1,_⟩:=h
 obtain ⟨cs,hc⟩:=own_type h1 hk
 exact ⟨(World.ownsRow.lt h1 k hk).1,(World.ownsRow.lt h1 k hk).2,cs,hc⟩
theorem NewX.keep {e:TypeId} {sb eb:Nat} {W W':World} {v:Value} {ps:PairL} (h:NewX e sb eb W v ps) (hs:W.heap.size≤W'.heap.size) (h0:∀ q,v.ownBlock = some q→W'.heap[q]? = W.heap[q]?) (hk:∀ b,b < W.heap.size→(b < eb∨∃ cs p,W.heap[b]? = some (.cells cs 3 p))→W'.heap[b]? = W.heap[b]?):NewX e sb eb W' v ps:=by
 obtain ⟨us,h1,h2⟩:=h
 refine ⟨us,own_keep h1 h0,fun j hj=>?_⟩
 obtain ⟨aL,cL,aR,cR,a,b,c,d,r⟩:=h2 j hj
 exact ⟨aL,cL,aR,cR,a,b,c.keep hs hk,d.keep hs hk,r⟩
theorem NewX.below {e:TypeId} {sb eb:Nat} {W W':World} {v:Value} {ps:PairL} (h:NewX e sb eb W v ps) (hB:Below W.heap.size W W'):NewX e sb eb W' v ps :=
 h.keep hB.size (fun q hq=>hB.block q (h.block hq).2.1) fun b hb _=>hB.block b hb
theorem NewX.grown {e e':TypeId} {sb eb:Nat} {W W':World} {v:Value} {ps:PairL} {row:Option Nat} (h:NewX e sb eb W v ps) (he:e'≠3) (hg:W.grownBy W' row) (hr:∀ k,row = some k→eb≤k∧(∃ cs,W.heap[k]? = some (.cells cs e' (0,0)))∧v.ownBlock≠some k):NewX e sb eb W' v ps :=
 h.keep hg.size (fun q hq=>hg.block q (h.block hq).2.1 fun e1=>(hr q e1.symm).2.2 hq) fun b hb hor=>hg.block b hb fun e1=>by
  obtain ⟨h1,⟨cs,h2⟩,_⟩:=hr b e1.symm
  rcases hor with h | ⟨cs',p',h'⟩
  ·omega
  ·rw [h'] at h2
   simp only [Option.some.injEq,Obj.cells.injEq] at h2
   exact he h2.2.1.symm
theorem NewX.mono {e:TypeId} {sb sb' eb:Nat} {W:World} {v:Value} {ps:PairL} (h:NewX e sb eb W v ps) (hb:sb'≤sb):NewX e sb' eb W v ps:=by
 obtain ⟨us,h1,h2⟩:=h
 exact ⟨us,⟨h1.1,h1.2.elim .inl (fun ⟨g,cap,cur,e1,e2,e3⟩=>.inr ⟨g,cap,cur,e1,Nat.le_trans hb e2,e3⟩)⟩,h2⟩
theorem NewX.at {e:TypeId} {sb eb:Nat} {W:World} {v:Value} {ps:PairL} (h:NewX e sb eb W v ps):∃ a cap,v = .slice a ps.length cap∧RulesAt W.heap.size W a ps∧ps.length≤cap∧cap≤maxLen:=by
 obtain ⟨us,h1,h2⟩:=h
 have hl:us.length = ps.length * 2:=h1.1
 rcases h1.2 with ⟨rfl,hn⟩ | ⟨g,cap,cur,rfl,hb,hgb,q1,q2,_⟩
 ·refine ⟨none,0,by rw [hn],fun k hk=>by omega,by omega,by unfold maxLen;omega⟩
 ·refine ⟨_,cap,rfl,fun j hj=>?_,q1,q2⟩
  obtain ⟨a1,c1,a2,c2,p1,p2,i1,i2,m1,m1',m2,m2'⟩:=h2 j hj
  have cc:=fun k hk=>World.ownsRow.cellAt h1 k hk
  exact ⟨g,0,rfl,(Array.getElem?_eq_some_iff.1 hgb).1,a1,c1,a2,c2,by rw [Nat.zero_add,cc _ (by omega),p1],by rw [Nat.zero_add,cc _ (by omega),p2],i1.ints,i2.ints,m1,m1',m2,m2'⟩
theorem NewX.elem {e:TypeId} {sb eb:Nat} {W:World} {v:Value} {ps:PairL} (h:NewX e sb eb W v ps) {k:Nat} (hk:k < ps.length):∃ g cap aL cL aR cR,v = .slice (some ⟨g,0,none⟩) ps.length cap∧g < W.heap.size∧W.cell? ⟨g,0+k * 2,none⟩ = some (.slice aL (ps[k]?.getD ([],[])).1.length cL)∧W.cell? ⟨g,0+k * 2+1,none⟩ = some (.slice aR (ps[k]?.getD ([],[])).2.length cR) ∧
 IntR eb W aL (ps[k]?.getD ([],[])).1∧IntR eb W aR (ps[k]?.getD ([],[])).2∧(ps[k]?.getD ([],[])).1.length≤cL∧cL≤maxLen∧(ps[k]?.getD ([],[])).2.length≤cR∧cR≤maxLen:=by
 obtain ⟨us,h1,h2⟩:=h
 have hl:us.length = ps.length * 2:=h1.1
 obtain ⟨aL,cL,aR,cR,a,b,c,d,r⟩:=h2 k hk
 rcases h1.2 with ⟨rfl,hn⟩ | ⟨g,cap,cur,rfl,hb,hgb,q1,q2,_⟩
 ·omega
 ·have cc:=fun k hk=>World.ownsRow.cellAt h1 k hk
  exact ⟨g,cap,aL,cL,aR,cR,rfl,(Array.getElem?_eq_some_iff.1 hgb).1,by rw [Nat.zero_add,cc _ (by omega),a],by rw [Nat.zero_add,cc _ (by omega),b],c,d,r⟩
theorem NewX.snoc {e:TypeId} {sb eb:Nat} {w w':World} {v v':Value} {ps:PairL} {aL aR:Option Addr} {cL cR:Nat} {t t2:List Int} (he:e≠3) (hse:eb≤sb) (hg:w.grownBy w' v.ownBlock) (h1:IntR eb w aL t) (h2:IntR eb w aR t2) (c1:t.length≤cL) (c2:cL≤maxLen) (c3:t2.length≤cR) (c4:cR≤maxLen)
 {us:List Value} (hus:w.ownsRow sb e 2 v ps.length us) (hcl:∀ j,j < ps.length→∃ aL cL aR cR,us[j * 2]? = some (.slice aL (ps[j]?.getD ([],[])).1.length cL)∧us[j * 2+1]? = some (.slice aR (ps[j]?.getD ([],[])).2.length cR)∧IntR eb w aL (ps[j]?.getD ([],[])).1∧IntR eb w aR (ps[j]?.getD ([],[])).2∧(ps[j]?.getD ([],[])).1.length≤cL∧cL≤maxLen∧(ps[j]?.getD ([],[])).2.length≤cR∧cR≤maxLen)
 (hown:w'.ownsRow sb e 2 v' (ps.length+1) (us++[.slice aL t.length cL,.slice aR t2.length cR])):NewX e sb eb w' v' (ps++[(t,t2)]):=by
 have hul:us.length = ps.length * 2:=hus.1
 have hr:∀ k,v.ownBlock = some k→eb≤k∧∃ cs,w.heap[k]? = some (.cells cs e (0,0)):=fun k hk=>⟨Nat.le_trans hse (World.ownsRow.lt hus k hk).1,own_type hus hk⟩
 have hk:∀ {a:Option Addr} {zs:List Int},IntR eb w a zs→IntR eb w' a zs:=fun h=>h.grown he hg hr
 refine ⟨us++[.slice aL t.length cL,.slice aR t2.length cR],by simpa using hown,fun j hj=>?_⟩
 by_cases hjl:j < ps.length
 ·obtain ⟨y,yc,y',yc',q1,q2,n1,n2,r⟩:=hcl j hjl
  rw [List.getElem?_append_left hjl,List.getElem?_append_left (by omega),List.getElem?_append_left (by omega)]
  exact ⟨y,yc,y',yc',q1,q2,hk n1,hk n2,r⟩
 ·have hje:j = ps.length:=by simp at hj;omega
  subst hje
  rw [List.getElem?_append_right (Nat.le_refl _),List.getElem?_append_right (by omega),List.getElem?_append_right (by omega),hul]
  exact ⟨aL,cL,aR,cR,by simp,by simp,by simpa using hk h1,by simpa using hk h2,by simpa using c1,c2,by simpa using c3,c4⟩
theorem Tryz.info54:(Tryz.prog.info? 54).map (fun i=>(i.zero,i.size,i.bytes)) = some (some (.agg #[.slice none 0 0,.slice none 0 0]),2,48):=by kernel_rfl
theorem step_app_r {ops:Array Oper} {o:Oper} {a:Act} {K:Act→World→Prop} {Q:Exit→Act→World→Prop} {E:Prop} (w:World) (hgd:o.guard = none) (s x:Operand)
 (ho:o.op = .call { callee:=.builtin .append,args:=#[s,x],argTypes:=#[23,23] }) (sb eb:Nat) (hse:eb≤sb) (v:Value) (ps:PairL) (hs:a.eval s = v) (hN:NewX 54 sb eb w v ps)
 (B:Nat) (aL aR:Option Addr) (t t2:List Int) (cL cR:Nat) (hx:a.eval x = .slice (some ⟨B,0,none⟩) 1 1) (hB0:w.cell? ⟨B,0,none⟩ = some (.slice aL t.length cL)) (hB1:w.cell? ⟨B,1,none⟩ = some (.slice aR t2.length cR)) (h1:IntR eb w aL t) (h2:IntR eb w aR t2) (c1:t.length≤cL) (c2:cL≤maxLen) (c3:t2.length≤cR) (c4:cR≤maxLen) (hlen:ps.length≤1000000) (hbase:sb≤w.heap.size)
 (h:∀ g c' w',NewX 54 sb eb w' (.slice (some ⟨g,0,none⟩) (ps.length+1) c') (ps++[(t,t2)])→w.grownBy w' v.ownBlock→Below sb w w'→K (a.put o.dst (.slice (some ⟨g,0,none⟩) (ps.length+1) c')) w') :
 if Region.wanted o (yielded ops a.tmps) = true then Oper.wp Tryz.prog o a w K Q else E:=by
 obtain ⟨i0,hi,hz0,hz1,hz2⟩:=info_parts Tryz.info54
 obtain ⟨us,hus,hcl⟩:=hN
 refine step_append_lies w hgd s x 23 ho sb 54 i0 (.agg #[.slice none 0 0,.slice none 0 0]) 2 48 Tryz.underlying23 hi hz0 hz1 hz2 rfl (by decide) v ps.length us hs hus ⟨B,0,none⟩ 1 1 [.slice aL t.length cL,.slice aR t2.length cR] hx (by simp)
  (by intro j z hj
      match j,hj with
      | 0,hj=>simp at hj;subst hj;rw [Go.WideShapes.add_plain];simpa using hB0
      | 1,hj=>simp at hj;subst hj;rw [Go.WideShapes.add_plain];simpa using hB1)
  (by intro u hu;simp at hu;rcases hu with rfl | rfl <;> rfl) (by decide) (by unfold maxLen;omega) (by omega) hbase w.heap.size rfl ?_
 intro g c' w' hown hg _ _
 exact h g c' w' (NewX.snoc (by decide) hse hg h1 h2 c1 c2 c3 c4 hus hcl hown) hg ((Below.refl sb w).grown hg hbase fun k e=>(World.ownsRow.lt hus k e).1)
theorem wp_app_r {ops:Array Oper} {rest:List Oper} {o:Oper} {a:Act} {Q:Exit→Act→World→Prop} (w:World) (hgd:o.guard = none) (s x:Operand)
 (ho:o.op = .call { callee:=.builtin .append,args:=#[s,x],argTypes:=#[23,23] }) (sb eb:Nat) (hse:eb≤sb) (v:Value) (ps:PairL) (hs:a.eval s = v) (hN:NewX 54 sb eb w v ps)
 (B:Nat) (aL aR:Option Addr) (t t2:List Int) (cL cR:Nat) (hx:a.eval x = .slice (some ⟨B,0,none⟩) 1 1) (hB0:w.cell? ⟨B,0,none⟩ = some (.slice aL t.length cL)) (hB1:w.cell? ⟨B,1,none⟩ = some (.slice aR t2.length cR)) (h1:IntR eb w aL t) (h2:IntR eb w aR t2) (c1:t.length≤cL) (c2:cL≤maxLen) (c3:t2.length≤cR) (c4:cR≤maxLen) (hlen:ps.length≤1000000) (hbase:sb≤w.heap.size)
 (h:∀ g c' w',NewX 54 sb eb w' (.slice (some ⟨g,0,none⟩) (ps.length+1) c') (ps++[(t,t2)])→w.grownBy w' v.ownBlock→Below sb w w'→wpList Tryz.prog ops Q rest (a.put o.dst (.slice (some ⟨g,0,none⟩) (ps.length+1) c')) w'):wpList Tryz.prog ops Q (o :: rest) a w:=by
 obtain ⟨i0,hi,hz0,hz1,hz2⟩:=info_parts Tryz.info54
 obtain ⟨us,hus,hcl⟩:=hN
 refine wpList_append_own w hgd s x 23 ho sb 54 i0 (.agg #[.slice none 0 0,.slice none 0 0]) 2 48 Tryz.underlying23 hi hz0 hz1 hz2 rfl (by decide) v ps.length us hs hus ⟨B,0,none⟩ 1 1 [.slice aL t.length cL,.slice aR t2.length cR] hx (by simp)
  (by intro j z hj
      match j,hj with
      | 0,hj=>simp at hj;subst hj;rw [Go.WideShapes.add_plain];simpa using hB0
      | 1,hj=>simp at hj;subst hj;rw [Go.WideShapes.add_plain];simpa using hB1)
  (by intro u hu;simp at hu;rcases hu with rfl | rfl <;> rfl) (by unfold maxLen;omega) (by omega) hbase ?_
 intro v' w' hown hg _
 obtain ⟨g,c',rfl⟩:=ownsRow_succ hown
 exact h g c' w' (NewX.snoc (by decide) hse hg h1 h2 c1 c2 c3 c4 hus hcl hown) hg ((Below.refl sb w).grown hg hbase fun k e=>(World.ownsRow.lt hus k e).1)
theorem wp_apps_r {ops:Array Oper} {rest:List Oper} {o:Oper} {a:Act} {Q:Exit→Act→World→Prop} (w:World) (hgd:o.guard = none) (s x:Operand)
 (ho:o.op = .call { callee:=.builtin .append,args:=#[s,x],argTypes:=#[23,23] }) (sb eb:Nat) (hse:eb≤sb) (v:Value) (ps:PairL) (hs:a.eval s = v) (hN:NewX 54 sb eb w v ps)
 (v2:Value) (qs:PairL) (hx:a.eval x = v2) (sb2:Nat) (hM:NewX 54 sb2 eb w v2 qs) (hlen:ps.length+qs.length≤100000) (hbase:sb≤w.heap.size)
 (h:∀ v' w',NewX 54 sb eb w' v' (ps++qs)→w.grownBy w' v.ownBlock→Below sb w w'→wpList Tryz.prog ops Q rest (a.put o.dst v') w'):wpList Tryz.prog ops Q (o :: rest) a w:=by
 obtain ⟨i0,hi,hz0,hz1,hz2⟩:=info_parts Tryz.info54
 obtain ⟨us,h1,h2⟩:=hN
 obtain ⟨us',m1,m2⟩:=hM
 have hul:us.length = ps.length * 2:=h1.1
 have hul':us'.length = qs.length * 2:=m1.1
 have hcell:∀ u∈us',∃ a n c,u = .slice a n c:=fun u hu=>by
  obtain ⟨k,hk,e⟩:=List.getElem_of_mem hu
  have hk2:k / 2 < qs.length:=by omega
  obtain ⟨y,yc,y',yc',q1,q2,_⟩:=m2 (k / 2) hk2
  rcases Nat.mod_two_eq_zero_or_one k with h0 | h0
  ·rw [show k / 2 * 2 = k by omega,List.getElem?_eq_getElem hk,e] at q1
   cases q1
   exact ⟨_,_,_,rfl⟩
  ·rw [show k / 2 * 2+1 = k by omega,List.getElem?_eq_getElem hk,e] at q2
   cases q2
   exact ⟨_,_,_,rfl⟩
 rcases m1.2 with ⟨rfl,hn⟩ | ⟨g,cap,cur,rfl,hb,hgb,r1,r2,r3⟩
 ·obtain rfl:qs = []:=List.eq_nil_of_length_eq_zero hn
  refine wpList_append_own_none hgd s x 23 ho sb 54 i0 2 Tryz.underlying23 hi v ps.length us hs h1 hx (h v w (by rw [List.append_nil];exact ⟨us,h1,h2⟩) ⟨rfl,rfl,rfl,Nat.le_refl _,fun _ _ _=>rfl⟩ (Below.refl _ _))
 ·refine wpList_append_own w hgd s x 23 ho sb 54 i0 (.agg #[.slice none 0 0,.slice none 0 0]) 2 48 Tryz.underlying23 hi hz0 hz1 hz2 rfl (by decide) v ps.length us hs h1 ⟨g,0,none⟩ qs.length cap us' hx (by omega)
   (by intro j z hj
       have hjl:j < qs.length * 2:=by
        have:=(List.getElem?_eq_some_iff.1 hj).1
        omega
       rw [Go.WideShapes.add_plain]
       have:=World.ownsRow.cellAt m1 j hjl
       rw [hj] at this
       simpa using this)
   (by intro u hu;obtain ⟨_,_,_,rfl⟩:=hcell u hu;rfl) (by unfold maxLen;omega) (by omega) hbase ?_
  intro v' w' hown hg _
  have hr:∀ k,v.ownBlock = some k→eb≤k∧∃ cs,w.heap[k]? = some (.cells cs 54 (0,0)):=fun k hk=>⟨Nat.le_trans hse (World.ownsRow.lt h1 k hk).1,own_type h1 hk⟩
  have hk:∀ {a:Option Addr} {zs:List Int},IntR eb w a zs→IntR eb w' a zs:=fun h=>h.grown (by decide) hg hr
  refine h v' w' ⟨us++us',by simpa using hown,fun j hj=>?_⟩ hg ((Below.refl sb w).grown hg hbase (fun k e=>(World.ownsRow.lt h1 k e).1))
  by_cases hjl:j < ps.length
  ·obtain ⟨y,yc,y',yc',q1,q2,n1,n2,r⟩:=h2 j hjl
   rw [List.getElem?_append_left hjl,List.getElem?_append_left (by omega),List.getElem?_append_left (by omega)]
   exact ⟨y,yc,y',yc',q1,q2,hk n1,hk n2,r⟩
  ·have hj2:j - ps.length < qs.length:=by rw [List.length_append] at hj;omega
   obtain ⟨y,yc,y',yc',q1,q2,n1,n2,r⟩:=m2 (j - ps.length) hj2
   rw [List.getElem?_append_right (by omega),List.getElem?_append_right (by omega),List.getElem?_append_right (by omega),hul]
   rw [show j * 2 - ps.length * 2 = (j - ps.length) * 2 by omega,show j * 2+1 - ps.length * 2 = (j - ps.length) * 2+1 by omega]
   exact ⟨y,yc,y',yc',q1,q2,hk n1,hk n2,r⟩
theorem step_app_p {ops:Array Oper} {o:Oper} {a:Act} {K:Act→World→Prop} {Q:Exit→Act→World→Prop} {E:Prop} (w:World) (hgd:o.guard = none) (s x:Operand)
 (ho:o.op = .call { callee:=.builtin .append,args:=#[s,x],argTypes:=#[24,24] }) (sb eb:Nat) (hse:eb≤sb) (v:Value) (ps:PairL) (hs:a.eval s = v) (hN:NewX 40 sb eb w v ps)
 (B:Nat) (aL aR:Option Addr) (t t2:List Int) (cL cR:Nat) (hx:a.eval x = .slice (some ⟨B,0,none⟩) 1 1) (hB0:w.cell? ⟨B,0,none⟩ = some (.slice aL t.length cL)) (hB1:w.cell? ⟨B,1,none⟩ = some (.slice aR t2.length cR)) (h1:IntR eb w aL t) (h2:IntR eb w aR t2) (c1:t.length≤cL) (c2:cL≤maxLen) (c3:t2.length≤cR) (c4:cR≤maxLen) (hlen:ps.length≤1000000) (hbase:sb≤w.heap.size)
 (h:∀ g c' w',NewX 40 sb eb w' (.slice (some ⟨g,0,none⟩) (ps.length+1) c') (ps++[(t,t2)])→w.grownBy w' v.ownBlock→Below sb w w'→K (a.put o.dst (.slice (some ⟨g,0,none⟩) (ps.length+1) c')) w') :
 if Region.wanted o (yielded ops a.tmps) = true then Oper.wp Tryz.prog o a w K Q else E:=by
 obtain ⟨i0,hi,hz0,hz1,hz2⟩:=info_parts Tryz.info40
 obtain ⟨us,hus,hcl⟩:=hN
 refine step_append_lies w hgd s x 24 ho sb 40 i0 (.agg #[.slice none 0 0,.slice none 0 0]) 2 48 Tryz.underlying24 hi hz0 hz1 hz2 rfl (by decide) v ps.length us hs hus ⟨B,0,none⟩ 1 1 [.slice aL t.length cL,.slice aR t2.length cR] hx (by simp)
  (by intro j z hj
      match j,hj with
      | 0,hj=>simp at hj;subst hj;rw [Go.WideShapes.add_plain];simpa using hB0
      | 1,hj=>simp at hj;subst hj;rw [Go.WideShapes.add_plain];simpa using hB1)
  (by intro u hu;simp at hu;rcases hu with rfl | rfl <;> rfl) (by decide) (by unfold maxLen;omega) (by omega) hbase w.heap.size rfl ?_
 intro g c' w' hown hg _ _
 exact h g c' w' (NewX.snoc (by decide) hse hg h1 h2 c1 c2 c3 c4 hus hcl hown) hg ((Below.refl sb w).grown hg hbase fun k e=>(World.ownsRow.lt hus k e).1)
theorem wp_app_p {ops:Array Oper} {rest:List Oper} {o:Oper} {a:Act} {Q:Exit→Act→World→Prop} (w:World) (hgd:o.guard = none) (s x:Operand)
 (ho:o.op = .call { callee:=.builtin .append,args:=#[s,x],argTypes:=#[24,24] }) (sb eb:Nat) (hse:eb≤sb) (v:Value) (ps:PairL) (hs:a.eval s = v) (hN:NewX 40 sb eb w v ps)
 (B:Nat) (aL aR:Option Addr) (t t2:List Int) (cL cR:Nat) (hx:a.eval x = .slice (some ⟨B,0,none⟩) 1 1) (hB0:w.cell? ⟨B,0,none⟩ = some (.slice aL t.length cL)) (hB1:w.cell? ⟨B,1,none⟩ = some (.slice aR t2.length cR)) (h1:IntR eb w aL t) (h2:IntR eb w aR t2) (c1:t.length≤cL) (c2:cL≤maxLen) (c3:t2.length≤cR) (c4:cR≤maxLen) (hlen:ps.length≤1000000) (hbase:sb≤w.heap.size)
 (h:∀ g c' w',NewX 40 sb eb w' (.slice (some ⟨g,0,none⟩) (ps.length+1) c') (ps++[(t,t2)])→w.grownBy w' v.ownBlock→Below sb w w'→wpList Tryz.prog ops Q rest (a.put o.dst (.slice (some ⟨g,0,none⟩) (ps.length+1) c')) w'):wpList Tryz.prog ops Q (o :: rest) a w:=by
 obtain ⟨i0,hi,hz0,hz1,hz2⟩:=info_parts Tryz.info40
 obtain ⟨us,hus,hcl⟩:=hN
 refine wpList_append_own w hgd s x 24 ho sb 40 i0 (.agg #[.slice none 0 0,.slice none 0 0]) 2 48 Tryz.underlying24 hi hz0 hz1 hz2 rfl (by decide) v ps.length us hs hus ⟨B,0,none⟩ 1 1 [.slice aL t.length cL,.slice aR t2.length cR] hx (by simp)
  (by intro j z hj
      match j,hj with
      | 0,hj=>simp at hj;subst hj;rw [Go.WideShapes.add_plain];simpa using hB0
      | 1,hj=>simp at hj;subst hj;rw [Go.WideShapes.add_plain];simpa using hB1)
  (by intro u hu;simp at hu;rcases hu with rfl | rfl <;> rfl) (by unfold maxLen;omega) (by omega) hbase ?_
 intro v' w' hown hg _
 obtain ⟨g,c',rfl⟩:=ownsRow_succ hown
 exact h g c' w' (NewX.snoc (by decide) hse hg h1 h2 c1 c2 c3 c4 hus hcl hown) hg ((Below.refl sb w).grown hg hbase fun k e=>(World.ownsRow.lt hus k e).1)
theorem wp_apps_p {ops:Array Oper} {rest:List Oper} {o:Oper} {a:Act} {Q:Exit→Act→World→Prop} (w:World) (hgd:o.guard = none) (s x:Operand)
 (ho:o.op = .call { callee:=.builtin .append,args:=#[s,x],argTypes:=#[24,24] }) (sb eb:Nat) (hse:eb≤sb) (v:Value) (ps:PairL) (hs:a.eval s = v) (hN:NewX 40 sb eb w v ps)
 (v2:Value) (qs:PairL) (hx:a.eval x = v2) (sb2:Nat) (hM:NewX 40 sb2 eb w v2 qs) (hlen:ps.length+qs.length≤100000) (hbase:sb≤w.heap.size)
 (h:∀ v' w',NewX 40 sb eb w' v' (ps++qs)→w.grownBy w' v.ownBlock→Below sb w w'→wpList Tryz.prog ops Q rest (a.put o.dst v') w'):wpList Tryz.prog ops Q (o :: rest) a w:=by
 obtain ⟨i0,hi,hz0,hz1,hz2⟩:=info_parts Tryz.info40
 obtain ⟨us,h1,h2⟩:=hN
 obtain ⟨us',m1,m2⟩:=hM
 have hul:us.length = ps.length * 2:=h1.1
 have hul':us'.length = qs.length * 2:=m1.1
 have hcell:∀ u∈us',∃ a n c,u = .slice a n c:=fun u hu=>by
  obtain ⟨k,hk,e⟩:=List.getElem_of_mem hu
  have hk2:k / 2 < qs.length:=by omega
  obtain ⟨y,yc,y',yc',q1,q2,_⟩:=m2 (k / 2) hk2
  rcases Nat.mod_two_eq_zero_or_one k with h0 | h0
  ·rw [show k / 2 * 2 = k by omega,List.getElem?_eq_getElem hk,e] at q1
   cases q1
   exact ⟨_,_,_,rfl⟩
  ·rw [show k / 2 * 2+1 = k by omega,List.getElem?_eq_getElem hk,e] at q2
   cases q2
   exact ⟨_,_,_,rfl⟩
 rcases m1.2 with ⟨rfl,hn⟩ | ⟨g,cap,cur,rfl,hb,hgb,r1,r2,r3⟩
 ·obtain rfl:qs = []:=List.eq_nil_of_length_eq_zero hn
  refine wpList_append_own_none hgd s x 24 ho sb 40 i0 2 Tryz.underlying24 hi v ps.length us hs h1 hx (h v w (by rw [List.append_nil];exact ⟨us,h1,h2⟩) ⟨rfl,rfl,rfl,Nat.le_refl _,fun _ _ _=>rfl⟩ (Below.refl _ _))
 ·refine wpList_append_own w hgd s x 24 ho sb 40 i0 (.agg #[.slice none 0 0,.slice none 0 0]) 2 48 Tryz.underlying24 hi hz0 hz1 hz2 rfl (by decide) v ps.length us hs h1 ⟨g,0,none⟩ qs.length cap us' hx (by omega)
   (by intro j z hj
       have hjl:j < qs.length * 2:=by
        have:=(List.getElem?_eq_some_iff.1 hj).1
        omega
       rw [Go.WideShapes.add_plain]
       have:=World.ownsRow.cellAt m1 j hjl
       rw [hj] at this
       simpa using this)
   (by intro u hu;obtain ⟨_,_,_,rfl⟩:=hcell u hu;rfl) (by unfold maxLen;omega) (by omega) hbase ?_
  intro v' w' hown hg _
  have hr:∀ k,v.ownBlock = some k→eb≤k∧∃ cs,w.heap[k]? = some (.cells cs 40 (0,0)):=fun k hk=>⟨Nat.le_trans hse (World.ownsRow.lt h1 k hk).1,own_type h1 hk⟩
  have hk:∀ {a:Option Addr} {zs:List Int},IntR eb w a zs→IntR eb w' a zs:=fun h=>h.grown (by decide) hg hr
  refine h v' w' ⟨us++us',by simpa using hown,fun j hj=>?_⟩ hg ((Below.refl sb w).grown hg hbase (fun k e=>(World.ownsRow.lt h1 k e).1))
  by_cases hjl:j < ps.length
  ·obtain ⟨y,yc,y',yc',q1,q2,n1,n2,r⟩:=h2 j hjl
   rw [List.getElem?_append_left hjl,List.getElem?_append_left (by omega),List.getElem?_append_left (by omega)]
   exact ⟨y,yc,y',yc',q1,q2,hk n1,hk n2,r⟩
  ·have hj2:j - ps.length < qs.length:=by rw [List.length_append] at hj;omega
   obtain ⟨y,yc,y',yc',q1,q2,n1,n2,r⟩:=m2 (j - ps.length) hj2
   rw [List.getElem?_append_right (by omega),List.getElem?_append_right (by omega),List.getElem?_append_right (by omega),hul]
   rw [show j * 2 - ps.length * 2 = (j - ps.length) * 2 by omega,show j * 2+1 - ps.length * 2 = (j - ps.length) * 2+1 by omega]
   exact ⟨y,yc,y',yc',q1,q2,hk n1,hk n2,r⟩
theorem NewP.x {base eb:Nat} {W:World} {v:Value} {ps:PairL} (h:NewP base W v ps):NewX 40 base eb W v ps:=by
 obtain ⟨us,h1,h2⟩:=h
 refine ⟨us,h1,fun j hj=>?_⟩
 obtain ⟨u,u',a,b,n1,n2⟩:=h2 j hj
 obtain ⟨a1,c1,rfl,i1,m1,m1'⟩:=IntR.new (base:=eb) n1
 obtain ⟨a2,c2,rfl,i2,m2,m2'⟩:=IntR.new (base:=eb) n2
 exact ⟨a1,c1,a2,c2,a,b,i1,i2,m1,m1',m2,m2'⟩
end Go.Proofs.YtglohanbpjaieaaGreat
