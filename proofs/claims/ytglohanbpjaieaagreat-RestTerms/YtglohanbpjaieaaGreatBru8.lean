/-
  Parts of the proof: Ord8.
-/
import Derived.Test.YtglohanbpjaieaaGreatBru7
set_option maxHeartbeats 2000000
set_option maxRecDepth 100000
namespace Go.Proofs.YtglohanbpjaieaaGreat
open Go.Proofs Go.RowKit Go.Shelf Go.Maps
section
attribute [local go_sem] Oper.semAt_some
attribute [local go_sem ↓] Go.wp_at_zero Go.wp_at_succ
theorem Xa {rk za zb:List Int} {i j m n:Nat} (h:m < n) (hm:Tm.ov rk za zb i j (m+1) = false):Tm.ov rk za zb i j n = false:=by
 rw [Bool.eq_false_iff] at *;intro hn;apply hm;simp only [Tm.ov,List.all_eq_true,List.mem_range] at *;exact fun x hx=>hn x (by omega)
theorem Dp {C:Sd} {w W:World} {fF:Value→Option Value} {dom:Nat→Nat→Prop} {i j:Nat} (h:iW C w fF dom i j W) (n:Nat):iW C w fF dom i j (W.drewN n):=by
 obtain ⟨⟨tf,hf,htf⟩,bS,bA,kp⟩:=h;exact ⟨⟨tf,hf.keep rfl,htf⟩,bS,bA,⟨kp.os,kp.tape,kp.output,kp.size,kp.block⟩⟩
theorem UY {C:Sd} {w W:World} {UW fF:Value→Option Value} {dom:Nat→Nat→Prop} {i j:Nat} {q:Bool} (H:fT C w UW) (h:iW C w fF dom i j W):Fe C q dom fF w (.returned (.bool q)) W:=by
 obtain ⟨tf,hS,ht⟩:=h.sides H;exact ⟨rfl,h.kp,tf,hS,ht⟩
theorem RN {rk za zb:List Int} {i j:Nat} (hf:0≤za[i]?.getD 0) (hg:0≤zb[j]?.getD 0):Tm.sy rk za zb i j = (Tm.ov rk za zb i j (Tm.room (zb[j]?.getD 0)) && (if za[i]?.getD 0 = zb[j]?.getD 0 then Tm.fd rk za zb i j (Tm.room (za[i]?.getD 0)) else decide (Tm.lu rk (zb[j]?.getD 0) < Tm.lu rk (za[i]?.getD 0)))):=by
 unfold Tm.sy;rw [decide_eq_true hf,decide_eq_true hg,Bool.true_and,Bool.true_and]
structure XT (C:Sd) (w:World) (fF:Value→Option Value) (i j m:Nat) (W:World):Prop where
 no:Tm.ov C.rk C.za C.zb i j m = true
 sd:iW C w fF (fun k l=>k < i∨l≤j) i j W
 bR:Boxed W (w.heap.size+1+1) 4 (.bool false)
 bT:Boxed W (w.heap.size+1+1+1) 35 (.slice (some ⟨C.bb,C.fb,none⟩) C.zb.length C.cb)
 bK:Boxed W (w.heap.size+1+1+1+1) 3 (.int .i64 (j:Int))
theorem FQ (C:Sd) (O:Q8 C) (i j:Nat) (hi:i < C.za.length) (hj:j < C.zb.length)
 (hA:∀ l,j < l→l < C.zb.length→jZ C 89 i l (Tm.ab C.rk C.za C.zb i l) fun k' l'=>k' < i∨l' < l)
 (hD:C.za[i]?.getD 0 = C.zb[j]?.getD 0→jZ C 131 i j (Tm.fd C.rk C.za C.zb i j (Tm.room (C.za[i]?.getD 0))) fun k l=>k≤i∨l≤j) :
 jZ C 117 i j (Tm.sy C.rk C.za C.zb i j) fun k l=>k < i∨l≤j:=by
 intro w fF H;obtain ⟨F,hF⟩:∃ F,F = Fence.wide:=⟨_,rfl⟩;refine (callsIn_wide (n:=3)).1 ?_;rw [← hF];obtain ⟨hro,hfn,hdd,jv⟩:=fC hF;have qz:Hid (Pl F):=by rw [hF];exact iZ
 have HF:=hid hF;clear hF;have hf1:=hfn 117;have hf2:=hfn 89;have hf3:=hfn 101;have PU:=hfn 123;have RZ:=hfn 131;clear hfn;have la:=Tm.aI O.ea;have iH:=H.ltM;have aaJ:=H.lt;obtain ⟨W3,hW3⟩:∃ W3,((w.alloc (.cells #[.pointer (some ⟨C.S,0,none⟩)] 123)).alloc (.cells #[.int .i64 (i:Int),.int .i64 (j:Int)] 129)).alloc (.cells #[.bool false] 4) = W3:=⟨_,rfl⟩;have hB0:Below w.heap.size w W3:=by rw [← hW3];exact (((Below.refl _ w).alloc (Nat.le_refl _) _).alloc (by simp) _).alloc (by simp;omega) _
 have bS:Boxed W3 w.heap.size 123 (.pointer (some ⟨C.S,0,none⟩)):=by rw [← hW3];exact ((Boxed.new w 123 (.pointer (some ⟨C.S,0,none⟩))).alloc _).alloc _
 have bA:W3.heap[w.heap.size+1]? = some (.cells #[.int .i64 (i:Int),.int .i64 (j:Int)] 129 (0,0)):=by
  rw [← hW3];have h1:=World.alloc_heap_new (w.alloc (.cells #[.pointer (some ⟨C.S,0,none⟩)] 123)) (.cells #[.int .i64 (i:Int),.int .i64 (j:Int)] 129);rw [World.size_alloc] at h1;exact (Below.heap_alloc _ _ _ (by simp)).trans h1
 have bR:Boxed W3 (w.heap.size+1+1) 4 (.bool false):=by
  rw [← hW3];have h1:=Boxed.new ((w.alloc (.cells #[.pointer (some ⟨C.S,0,none⟩)] 123)).alloc (.cells #[.int .i64 (i:Int),.int .i64 (j:Int)] 129)) 4 (.bool false);simpa using h1
 have hs3:W3.heap.size = w.heap.size+1+1+1:=by rw [← hW3];simp
 have HW3:=hid hW3;clear hW3;have H3:=H.below hB0;have c1:=H3.c1;have cS:=bS.cell;have cA:=jC bA;have c2:=H3.c2;have cB:=kD bA;have lb:=Tm.aI O.eb;obtain ⟨_,_,e1,_,Db⟩:=H3.ia.at (by omega);cases e1;obtain ⟨_,_,e2,_,hcb⟩:=H3.ib.at (by omega);cases e2;have ci:=Db i hi;have cj:=hcb j hj;have hi':(i:Int) < (C.za.length:Int):=by omega
 have hj':(j:Int) < (C.zb.length:Int):=by omega
 clear Db hcb;have I3:=hid (show iW C w fF (fun k l=>k < i∨l≤j) i j W3 from ⟨⟨fF,H.Lb.keep (hB0.block _ iH),fun _ _ _=>rfl⟩,bS,bA,aW.of_below hB0⟩);have HH:=hid H;by_cases hf0:C.za[i]?.getD 0 < 0
 ·have hsy:Tm.sy C.rk C.za C.zb i j = false:=by unfold Tm.sy;rw [decide_eq_false (by omega)];rfl
  rw [hsy];clear hA hD hsy H3;generalize C.za[i]?.getD 0 = f at *;generalize C.zb[j]?.getD 0 = g at *;have cR:=bR.cell;have fR:=bR.frozen;refine callsIn_of_wp Tryz.func117 rfl hf1 ?_ hro;simp only [Tryz.ntmps117,List.size_toArray,List.length_cons,List.length_nil,Nat.reduceAdd,Nat.reduceSub,Array.replicate_succ,Array.replicate_zero,List.push_toArray,List.append_toArray,List.nil_append,List.cons_append];gi_wp2_with fail
  rw [HW3.out,HF.out];refine wpIn_wide.2 ?_;go_quiet (fail)
  gi_wp2
  refine bodyPost_ret (fM rfl rfl (Boxed.set (W:=W3.drewN nq) (.bool false) bR).cell) rfl ?_;exact UY HH.out (mU (Dp I3.out nq) iH (by omega) _)
 by_cases hg0:C.zb[j]?.getD 0 < 0
 ·have hsy:Tm.sy C.rk C.za C.zb i j = false:=by unfold Tm.sy;rw [decide_eq_false (p:=0≤C.zb[j]?.getD 0) (by omega)];simp
  have ahG:decide (C.za[i]?.getD 0 < 0) = false:=by simpa using hf0
  rw [hsy];clear hA hD hsy H3;generalize C.za[i]?.getD 0 = f at *;generalize C.zb[j]?.getD 0 = g at *;have cR:=bR.cell;have fR:=bR.frozen;refine callsIn_of_wp Tryz.func117 rfl hf1 ?_ hro;simp only [Tryz.ntmps117,List.size_toArray,List.length_cons,List.length_nil,Nat.reduceAdd,Nat.reduceSub,Array.replicate_succ,Array.replicate_zero,List.push_toArray,List.append_toArray,List.nil_append,List.cons_append];gi_wp2_with fail
  rw [HW3.out,HF.out];refine wpIn_wide.2 ?_;go_quiet (fail)
  gi_wp2
  refine bodyPost_ret (fM rfl rfl (Boxed.set (W:=W3.drewN nq) (.bool false) bR).cell) rfl ?_;exact UY HH.out (mU (Dp I3.out nq) iH (by omega) _)
 have hsy:=RN (rk:=C.rk) (i:=i) (j:=j) (za:=C.za) (zb:=C.zb) (by omega) (by omega);have kf:=Tm.gK (Tm.lq (Tm.dH O.ea) hi);have kg:=Tm.gK (Tm.lq (Tm.dH O.eb) hj);obtain ⟨f,hf⟩:=Int.eq_ofNat_of_zero_le (show 0≤C.za[i]?.getD 0 by omega);obtain ⟨g,hg⟩:=Int.eq_ofNat_of_zero_le (show 0≤C.zb[j]?.getD 0 by omega);have hkp:∀ m,m < Tm.room (C.zb[j]?.getD 0)→Tm.pos C.zb j m < C.zb.length:=fun m hm=>by
  have h1:=Tm.mO O.eb hj m (by omega);have h2:=Tm.pq (Tm.dC O.eb hj) (m:=m) (by rw [Tm.jl O.eb hj];exact hm);rw [Tm.dF O.eb hj] at h2;have h3:=Tm.fV O.eb hj;omega
 have hps:=hid (iM F qz.out (3 - 1) (w.heap.size+1+1+1+1) (w.heap.size+1+1+1) j C.cb (some ⟨C.bb,C.fb,none⟩) C.zb (by omega) hj (jF F qz.out C.zb (by omega) _ C.cb j));rw [hf,hg] at hsy;rw [hf,hg] at hD;rw [hf] at ci kf hf0;rw [hg] at cj kg hg0 hkp hps;have Hsy:=hid hsy;have Rm:=hid hkp;have HA:=hid hA;have HD:=hid hD;have HO:=hid O;have ahG:decide ((f:Int) < 0) = false:=by simp
 have hg0':decide ((g:Int) < 0) = false:=by simp
 have bR':=hid bR;clear hsy hkp hA hD H3 O hf hg hf0 hg0;refine callsIn_of_wp_marks Tryz.func117 rfl hf1 ?_ hro;simp only [Tryz.ntmps117,List.size_toArray,List.length_cons,List.length_nil,Nat.reduceAdd,Nat.reduceSub,Array.replicate_succ,Array.replicate_zero,List.push_toArray,List.append_toArray,List.nil_append,List.cons_append];gi_wp2_with fail
 rw [HW3.out,HF.out];refine wpIn_wide.2 ?_;go_quiet (fail)
 obtain ⟨W4,qd⟩:∃ W4,W3.drewN nq = W4:=⟨_,rfl⟩;rw [qd];have sd4:iW C w fF (fun k l=>k < i∨l≤j) i j W4:=by rw [← qd];exact Dp I3.out nq
 have Dg:Boxed W4 (w.heap.size+1+1) 4 (.bool false):=by rw [← qd];exact bR
 have hs4:W4.heap.size = w.heap.size+1+1+1:=by rw [← qd];exact hs3
 clear qd bR bR' bA bS cA cB cS c1 c2 ci cj hs3 I3 HW3 hB0;obtain ⟨yB,S4,_⟩:=sd4.sides HH.out;have d1:=S4.c2;have d2:=sd4.bS.cell;have d3:=kD sd4.bA;have ahH:w.heap.size+1 < W4.heap.size:=by omega
 have hS:=hid (fun w' (hB:Below W4.heap.size W4 w')=>(show w'.cell? ⟨C.S,2,none⟩ = some (.slice (some ⟨C.bb,C.fb,none⟩) C.zb.length C.cb)∧w'.cell? ⟨w.heap.size,0,none⟩ = some (.pointer (some ⟨C.S,0,none⟩))∧w'.cell? ⟨w.heap.size+1,1,none⟩ = some (.int .i64 (j:Int)) from
  ⟨(hB.cell S4.lt).trans d1,(hB.cell sd4.bS.lt).trans d2,(hB.cell (p:=⟨w.heap.size+1,1,none⟩) ahH).trans d3⟩))
 obtain ⟨W5,mG⟩:∃ W5,((W4.alloc (.cells #[.slice (some ⟨C.bb,C.fb,none⟩) C.zb.length C.cb] 35)).alloc (.cells #[.int .i64 (j:Int)] 3)).drew = W5:=⟨_,rfl⟩;have aaN:Below W4.heap.size W4 W5:=by rw [← mG];exact dn (((Below.refl _ W4).alloc (Nat.le_refl _) _).alloc (by simp) _)
 have R3:Boxed W5 (w.heap.size+1+1+1) 35 (.slice (some ⟨C.bb,C.fb,none⟩) C.zb.length C.cb):=by
  rw [← mG,← hs4];exact (Boxed.new W4 35 (.slice (some ⟨C.bb,C.fb,none⟩) C.zb.length C.cb)).alloc _
 have R4:Boxed W5 (w.heap.size+1+1+1+1) 3 (.int .i64 (j:Int)):=by
  have h1:=Boxed.new (W4.alloc (.cells #[.slice (some ⟨C.bb,C.fb,none⟩) C.zb.length C.cb] 35)) 3 (.int .i64 (j:Int));rw [World.size_alloc,hs4] at h1;rw [← mG];exact h1
 have hs5:W5.heap.size = w.heap.size+1+1+1+1+1:=by rw [← mG];show ((W4.alloc _).alloc _).heap.size = _;simp [hs4]
 have Va:=hid mG;clear mG;have U7:Boxed W5 (w.heap.size+1+1) 4 (.bool false):=(aaN.block _ Dg.lt).trans Dg;have HI0:=hid (show XT C w fF i j 0 W5 from ⟨rfl,Lf sd4 aaN iH,U7,R3,R4⟩);clear R3 R4 U7 aaN;gi_wp2_with fail
 rw [HF.out];refine wpIn_wide.2 ?_;have hS0:=hS.out _ (Below.refl _ W4);go_region_held3 (fun w'=>w'.cell? ⟨C.S,2,none⟩ = some (.slice (some ⟨C.bb,C.fb,none⟩) C.zb.length C.cb)∧w'.cell? ⟨w.heap.size,0,none⟩ = some (.pointer (some ⟨C.S,0,none⟩))∧w'.cell? ⟨w.heap.size+1,1,none⟩ = some (.int .i64 (j:Int))) (first | assumption | exact hS.out _ (Below.refl _ W4) | exact hS.out _ (below_drewN (Below.refl _ W4) 1)) (first
  | (go_at_call 101;refine (callsIn_wide.1 (j6 Fence.wide iZ 0 _ _ _ _ _)).mono ?_;rintro e w' ⟨rfl,rfl⟩;have hS1:=hS.out _ (((below_drewN (Below.refl _ W4) 1).alloc (Nat.le_refl _) (.cells #[.slice (some ⟨C.bb,C.fb,none⟩) C.zb.length C.cb] 35)).alloc (by simp) (.cells #[.int .i64 (j:Int)] 3))))
 rw [Va.out];rename_i hHeld;clear hS hS0 hS1 hHeld d1 d2 d3;gi_wp2_with fail
 refine dU hro (by omega) (gf:=123) (lb:=#[.pointer (some ⟨w.heap.size+1+1+1+1,0,none⟩),.pointer (some ⟨w.heap.size+1+1+1,0,none⟩)]) rfl PU (enters_of Tryz.func123 (by kernel_rfl) rfl)
  hps.out (fun _=>rfl)
  (XT C w fF i j)
  (fun c W=>c = .ret∧Tm.ov C.rk C.za C.zb i j (Tm.room (g:Int)) = false∧iW C w fF (fun k l=>k < i∨l≤j) i j W∧Boxed W (w.heap.size+1+1) 4 (.bool false)) (fun _ _=>False) (.inl fun _ _ h=>h)
  (by
    rintro m X Y row ⟨no,sd,bR,bT,bK⟩ hg hr;exact ⟨no,sd.own iH (by omega) hg hr,dm bR hg hr,dm bT hg hr,dm bK hg hr⟩)
  (by
    rintro c X Y row ⟨e,hq,sd,bR⟩ hg hr;exact ⟨e,hq,sd.own iH (by omega) hg hr,dm bR hg hr⟩)
  (fun m W hI=>⟨hI.bK.cell,hI.bT.cell,by obtain ⟨gY,hS,_⟩:=hI.sd.sides HH.out;exact hS.ib⟩)
  HI0.out
  (fun m=>{ tmps:=#[.pointer (some ⟨C.S,0,none⟩),.agg #[.int .i64 (i:Int),.int .i64 (j:Int)],.pointer (some ⟨w.heap.size,0,none⟩),.pointer (some ⟨w.heap.size+1,0,none⟩),.pointer (some ⟨w.heap.size+1+1,0,none⟩),.int .i64 (f:Int),.int .i64 (g:Int),.int .i64 (Tm.pos C.zb j m:Int),.pointer (some ⟨C.S,0,none⟩),.pointer (some ⟨C.S,0,none⟩),.pointer (some ⟨C.S,1,none⟩),.slice (some ⟨C.ba,C.fa,none⟩) C.za.length C.ca,.pointer (some ⟨w.heap.size+1,0,none⟩),.int .i64 (i:Int),.pointer (some ⟨C.ba,C.fa+i,none⟩),.int .i64 (f:Int),.pointer (some ⟨C.S,0,none⟩),.pointer (some ⟨C.S,0,none⟩),.pointer (some ⟨C.S,2,none⟩),.slice (some ⟨C.bb,C.fb,none⟩) C.zb.length C.cb,.pointer (some ⟨w.heap.size+1,1,none⟩),.int .i64 (j:Int),.pointer (some ⟨C.bb,C.fb+j,none⟩),.int .i64 (g:Int),.int .i64 (f:Int),.bool false,.bool false,.int .i64 (g:Int),.bool false,.bool false,.pointer (some ⟨C.S,0,none⟩),.pointer (some ⟨C.S,0,none⟩),.pointer (some ⟨C.S,2,none⟩),.slice (some ⟨C.bb,C.fb,none⟩) C.zb.length C.cb,.pointer (some ⟨w.heap.size+1,1,none⟩),.int .i64 (j:Int),.func (.func 123) #[] #[.pointer (some ⟨w.heap.size+1+1+1+1,0,none⟩),.pointer (some ⟨w.heap.size+1+1+1,0,none⟩)],.int .i64 (Tm.pos C.zb j m:Int),.int .i64 (Tm.pos C.zb j (m+1):Int),undef,undef,undef,undef,undef,undef,undef,undef,undef,undef,undef,undef,undef,undef,undef,undef,undef,undef,undef,undef,undef,undef,undef,undef,undef,undef,undef,undef],defers:=[] }) ?assign ?body ?done ?stop ?panic
 case assign =>
  intro l m W K hK;simp only [ni];gi_wp2
  exact hK
 case body =>
  rintro l m W hI hm;obtain ⟨no,sd,bR,bT,bK⟩:=hI;have hm':m < Tm.room (g:Int):=hm;have hp:=Rm.out m hm';have hgt:=Tm.jr C.zb j m;obtain ⟨gY,Rb,ht'⟩:=sd.sides HH.out;have e3:=sd.bS.cell;have e4:=jC sd.bA;have Jh:=hid (CallsIn.inRound l (jv (n:=0) (HA.out (Tm.pos C.zb j m) hgt hp W gY Rb)));have hos:=hid (Tm.Ox C.rk C.za C.zb i j m);have hkw:=sd.kp;have Pg:=hid sd;have Hht:=hid ht';have Hno:=hid no;clear sd Rb ht' no;have Dl:=fun (k:Nat) (o:Obj) (hk:W5.heap.size≤k) (ho:W.heap[k]? = some o)=>(show k < W.heap.size∧k≠C.M from ⟨(Array.getElem?_eq_some_iff.1 ho).1,by omega⟩)
  cases hq1:Tm.ab C.rk C.za C.zb i (Tm.pos C.zb j m) with
  | false =>
   rw [hq1] at Jh hos;gi_wp2_with (first
    | ((try refine ⟨hdd _,?_⟩);gi_at_call 89;refine Jh.out.mono ?_;clear Jh;rintro e W4' ⟨rfl,hK4,adE,S4',UU⟩;have hne:∀ k,w.heap.size≤k→k≠C.M:=(fun k hk e=>by omega);have Dg:Boxed W4' (w.heap.size+1+1) 4 (.bool false):=(hK4.block _ bR.lt (hne _ (by omega))).trans bR;have cR4:=Dg.cell;have fR4:=Dg.frozen))
   have hq:Tm.ov C.rk C.za C.zb i j (Tm.room (g:Int)) = false:=Xa hm' (by rw [hos.out];simp);refine ⟨(⟨hK4.size,fun k o hk ho _=>(hK4.block k (Dl k o hk ho).1 (Dl k o hk ho).2).trans ho⟩:KeepsFrom W5.heap.size W W4').trans ((KeepsOthers.setCell _ _ _).from _),rfl,hq,?_,Dg.set _⟩;exact mU (rD Pg.out (Below.refl _ W) hK4 iH S4'.Lb (fun k l h=>(UU k l (by omega)).trans (Hht.out k l h))) iH (by omega) _
  | true =>
   rw [hq1] at Jh hos;gi_wp2_with (first
    | ((try refine ⟨hdd _,?_⟩);gi_at_call 89;refine Jh.out.mono ?_;clear Jh;rintro e W4' ⟨rfl,hK4,adE,S4',UU⟩;have hne:∀ k,w.heap.size≤k→k≠C.M:=(fun k hk e=>by omega);have Dg:Boxed W4' (w.heap.size+1+1) 4 (.bool false):=(hK4.block _ bR.lt (hne _ (by omega))).trans bR;have cR4:=Dg.cell;have fR4:=Dg.frozen))
   refine ⟨⟨hK4.size,fun k o hk ho _=>(hK4.block k (Dl k o hk ho).1 (Dl k o hk ho).2).trans ho⟩,?_⟩;refine ⟨by rw [hos.out,Hno.out];rfl,rD Pg.out (Below.refl _ W) hK4 iH S4'.Lb (fun k l h=>(UU k l (by omega)).trans (Hht.out k l h)),Dg,?_,?_⟩
   ·exact (hK4.block _ bT.lt (hne _ (by omega))).trans bT
   ·exact (hK4.block _ bK.lt (hne _ (by omega))).trans bK
 case done =>
  rintro D W hD ⟨no,sd,bR,bT,bK⟩ qA;have c1:=bR.cell;have c2:=bR.frozen;rw [hs5] at hD;have no':Tm.ov C.rk C.za C.zb i j (Tm.room (g:Int)) = true:=no;have e1:=sd.bS.cell;have e2:=jC sd.bA;have e3:=kD sd.bA;obtain ⟨gY,Rb,ht'⟩:=sd.sides HH.out;by_cases hfg:(f:Int) = (g:Int)
  ·have hsy:=Hsy.out
   rw [no',if_pos hfg,Bool.true_and] at hsy;have Hs:=hid hsy;have hCd:=hid (jv (n:=0) (HD.out hfg W gY Rb));generalize Tm.fd C.rk C.za C.zb i j (Tm.room (f:Int)) = q at *;have RP:((f:Int) == (g:Int)) = true:=by simp;omega
   clear hfg hsy no no' Hsy HD Rb;gi_wp2_with (first
    | ((try refine ⟨hdd _,?_⟩);gi_at_call 131;refine (LM qz.out hCd.out).mono ?_;clear hCd;rintro e W6 ⟨rfl,WZ,WY,S6,ht6⟩;have bR6:Boxed W6 (w.heap.size+1+1) 4 (.bool false):=(WZ.block _ bR.lt (by omega)).trans bR;have c6:=bR6.cell;have f6:=bR6.frozen))
   have Yd:=bR6.set (.bool q);have qB:(W6.setCell ⟨w.heap.size+1+1,0,none⟩ (.bool q)).heap[D]? = some (.deferred (some [])):=(Below.heap_setCell W6 ⟨w.heap.size+1+1,0,none⟩ _ D (show D≠w.heap.size+1+1 by omega)).trans ((WZ.block D (Array.getElem?_eq_some_iff.1 qA).1 (by omega)).trans qA);refine ⟨by simp,.inl ⟨_,_,rfl,run_takeDeferred qB,?_⟩⟩;refine ⟨_,fM rfl rfl ((World.cell?_of_block (a:=⟨w.heap.size+1+1,0,none⟩) (World.putObj_heap_other (show w.heap.size+1+1≠D by omega))).trans Yd.cell),?_⟩;rw [Hs.out];exact pU HH.out iH (mU (rD sd (Below.refl _ W) WZ iH S6.Lb (fun k l h=>(ht6 k l (by omega)).trans (ht' k l h))) iH (by omega) _) (by omega)
  ·have hsy:=Hsy.out
   rw [no',if_neg hfg,Bool.true_and] at hsy;have Hs:=hid hsy;have RP:((f:Int) == (g:Int)) = false:=by simpa using hfg
   have hr6:=HO.out.er;obtain ⟨_,_,e5,_,hcr⟩:=Rb.ir.at (by omega);cases e5;have kf6:f < 6:=by omega
   have kg6:g < 6:=by omega
   have cf:=hcr f (by omega);have cg:=hcr g (by omega);have hrf:Hid (Tm.lu C.rk (f:Int) = C.rk[f]?.getD 0):=rfl;have hrg:Hid (Tm.lu C.rk (g:Int) = C.rk[g]?.getD 0):=rfl;have c0:=Rb.c0;have hfl:(f:Int) < (C.rk.length:Int):=by omega
   have hgl:(g:Int) < (C.rk.length:Int):=by omega
   clear hsy no no' Hsy HD hcr;rw [hrf.out,hrg.out] at Hs;generalize C.rk[f]?.getD 0 = rf at *;generalize C.rk[g]?.getD 0 = rg at *;gi_wp2_with fail
   rw [HF.out];refine wpIn_wide.2 ?_;have abz:C.br≠w.heap.size+1+1:=fun e=>by
    obtain ⟨bq,oq,eq,hbq,_⟩:=HH.out.ir.at (by omega);cases eq;omega
   have g0:=(World.cell?_of_block (a:=⟨w.heap.size,0,none⟩) (Below.heap_setCell W ⟨w.heap.size+1+1,0,none⟩ (.bool (decide (rg < rf))) w.heap.size (show w.heap.size≠w.heap.size+1+1 by omega))).trans e1;have g1:=(World.cell?_of_block (a:=⟨C.S,0,none⟩) (Below.heap_setCell W ⟨w.heap.size+1+1,0,none⟩ (.bool (decide (rg < rf))) C.S (show C.S≠w.heap.size+1+1 by omega))).trans c0;have g2:=(World.cell?_of_block (a:=⟨C.br,C.fr+f,none⟩) (Below.heap_setCell W ⟨w.heap.size+1+1,0,none⟩ (.bool (decide (rg < rf))) C.br (show C.br≠w.heap.size+1+1 by omega))).trans cf;have g3:=(World.cell?_of_block (a:=⟨C.br,C.fr+g,none⟩) (Below.heap_setCell W ⟨w.heap.size+1+1,0,none⟩ (.bool (decide (rg < rf))) C.br (show C.br≠w.heap.size+1+1 by omega))).trans cg;go_region_held3 (fun w'=>w'.cell? ⟨w.heap.size,0,none⟩ = some (.pointer (some ⟨C.S,0,none⟩))∧w'.cell? ⟨C.S,0,none⟩ = some (.slice (some ⟨C.br,C.fr,none⟩) C.rk.length C.cr)∧w'.cell? ⟨C.br,C.fr+f,none⟩ = some (.int .i64 rf)∧w'.cell? ⟨C.br,C.fr+g,none⟩ = some (.int .i64 rg)) (first | assumption | exact ⟨e1,c0,cf,cg⟩ | exact ⟨g0,g1,g2,g3⟩) (first | fail)
   all_goals (
    gi_wp2
    have Yd:Boxed (W.drew.setCell ⟨w.heap.size+1+1,0,none⟩ (.bool (decide (rg < rf)))) (w.heap.size+1+1) 4 (.bool (decide (rg < rf))):=Boxed.set (W:=W.drew) (.bool (decide (rg < rf))) bR;have qB:(W.drew.setCell ⟨w.heap.size+1+1,0,none⟩ (.bool (decide (rg < rf)))).heap[D]? = some (.deferred (some [])):=(Below.heap_setCell W.drew ⟨w.heap.size+1+1,0,none⟩ _ D (show D≠w.heap.size+1+1 by omega)).trans qA;refine ⟨by simp,.inl ⟨_,_,rfl,run_takeDeferred qB,?_⟩⟩;refine ⟨_,fM rfl rfl ((World.cell?_of_block (a:=⟨w.heap.size+1+1,0,none⟩) (World.putObj_heap_other (show w.heap.size+1+1≠D by omega))).trans Yd.cell),?_⟩;rw [Hs.out];exact pU HH.out iH (mU (Dp sd 1) iH (by omega) _) (by omega))
 case stop =>
  rintro D c W hD ⟨rfl,hq,sd,bR⟩ qA;have c1:=bR.cell;rw [hs5] at hD;gi_wp2
  refine ⟨by simp,.inl ⟨_,_,rfl,run_takeDeferred qA,?_⟩⟩;refine ⟨_,fM rfl rfl ((World.cell?_of_block (a:=⟨w.heap.size+1+1,0,none⟩) (World.putObj_heap_other (show w.heap.size+1+1≠D by omega))).trans c1),?_⟩;rw [Hsy.out,hq];exact pU HH.out iH sd (by omega)
 case panic=>exact fun _ _ _ _ h=>h.elim
end
end Go.Proofs.YtglohanbpjaieaaGreat
