/-
  Parts of the proof: Web10, Web11, Web12, Web13, Web14, Web15, Web16, Web17, Web18.
-/
import Derived.Test.YtglohanbpjaieaaGreatBru12
import Derived.WalkLawsBesides
set_option maxHeartbeats 2000000
set_option maxRecDepth 100000
namespace Go.Proofs.YtglohanbpjaieaaGreat
open Go.Proofs Go.RowKit Go.Shelf Go.Maps
section
attribute [local go_sem] Oper.semAt_some
theorem dE.of {W W':World} {Bw Bm b off cap N:Nat} {zs:List Int} {T:Nat→Option Nat} (H:dE W Bw Bm (some ⟨b,off,none⟩) cap zs N T) (h1:W'.heap[Bw]? = W.heap[Bw]?) (h2:W'.heap[Bm]? = W.heap[Bm]?) (h3:W'.heap[b]? = W.heap[b]?) (hb:b < W'.heap.size):dE W' Bw Bm (some ⟨b,off,none⟩) cap zs N T:=by
 refine ⟨h1.trans H.JF,fun j hj=>?_,?_⟩
 ·obtain ⟨b',off',e,_,hc⟩:=H.ints j hj
  cases e;exact ⟨b,off,rfl,hb,(World.cell?_of_block (a:=⟨b,off+j,none⟩) h3).trans hc⟩
 ·obtain ⟨M,hM,hMT⟩:=H.ties
  exact ⟨M,hM.keep h2,hMT⟩
theorem Wb.PY (zs:List Int) (st:Nat→Nat) (q v:Nat) (hv:v≠0):Wb.fr zs (Wb.lD st q v)≤Wb.fr zs st:=by
 unfold Wb.fr;refine Wb.filter_le _ _ (fun x hx=>?_) _;simp only [decide_eq_true_eq] at hx ⊢;unfold Wb.lD at hx;by_cases e:x = q
 ·rw [if_pos e] at hx;exact absurd hx hv
 ·rw [if_neg e] at hx;exact hx
structure OI (w:World) (Bt Bw Bm Bs b off cap N0 N:Nat) (zs:List Int) (T:Nat→Option Nat) (h:Nat→Nat) (st:Nat→Nat) (r i:Nat) (W:World):Prop where
 sm:∃ st1 N1,Wb.Left zs h (Wb.lD st r 1) st1∧iJ W Bs N1 st1∧N1+2 * Wb.fr zs st1≤N+1+2 * Wb.fr zs (Wb.lD st r 1)∧∀ j,j < i→Wb.Fin zs h (Tm.pos zs r j)
 JF:dE W Bw Bm (some ⟨b,off,none⟩) cap zs N0 T
 bW:Boxed W w.heap.size 163 (.pointer (some ⟨Bw,0,none⟩))
 bS:Boxed W (w.heap.size+1) 154 (.map (some Bs))
 bR:Boxed W (w.heap.size+1+1) 4 (.bool false)
 bK:Boxed W (Bt+1) 3 (.int .i64 (r:Int))
 bT:Boxed W Bt 35 (.slice (some ⟨b,off,none⟩) zs.length cap)
 kp:aW w.heap.size Bs w W
theorem OI.own {w:World} {Bt Bw Bm Bs b off cap N0 N:Nat} {zs:List Int} {T:Nat→Option Nat} {h:Nat→Nat} {st:Nat→Nat} {r B:Nat} (h1:Bw < w.heap.size) (h2:Bm < w.heap.size) (h3:b < w.heap.size) (h4:Bs < w.heap.size) (hB:w.heap.size≤B):OwnFrom B (OI w Bt Bw Bm Bs b off cap N0 N zs T h st r):=by
 rintro i X Y row ⟨⟨st1,N1,hL,hS,hn,hf⟩,qC,bW,bS,bR,bK,bT,hK⟩ hg hrow;have hbx:∀ {C:Nat} {t:TypeId} {v:Value},Boxed X C t v→Boxed Y C t v:=fun {C t v} hb=>(boxed_own C t (fun _:Unit=>v)).from B () X Y row hb hg hrow
 have hkk:∀ k,k < w.heap.size→Y.heap[k]? = X.heap[k]?:=fun k hk=>hg.block k (by have:=hK.size;omega) (fun e=>by have:=(hrow k e.symm).1;omega)
 refine ⟨⟨st1,N1,hL,hS.keep (hkk Bs h4),hn,hf⟩,qC.of (hkk Bw h1) (hkk Bm h2) (hkk b h3) (by have:=hK.size;have:=hg.size;omega),hbx bW,hbx bS,hbx bR,hbx bK,hbx bT,yV hB hK hg hrow⟩
theorem Xo {f:Nat} {args:Array Value} {W:World} {m Bs N:Nat} {zs:List Int} {h st:Nat→Nat} {p:Nat} (H:Calls Tryz.prog f args W fun e W'=>aW m Bs W W'∧JM W' e Bs N zs h st p) :
 Calls Tryz.prog f args W fun e W'=>∃ q,e = .returned (.bool q)∧aW m Bs W W'∧((q = true∧Wb.None zs h)∨(q = false∧Wb.Fin zs h p∧∃ st' N',Wb.Left zs h st st'∧iJ W' Bs N' st'∧N'+2 * Wb.fr zs st'≤N+2 * Wb.fr zs st)) :=
 H.mono fun _ _ ⟨hK,hA⟩=>hA.elim (fun ⟨he,r⟩=>⟨true,he,hK,.inl ⟨rfl,r⟩⟩) (fun ⟨he,r⟩=>⟨false,he,hK,.inr ⟨rfl,r⟩⟩)
theorem JN (zs:List Int) (G:Wb.Good zs) (T:Nat→Option Nat) (h:Nat→Nat) (S:Wb.St zs T h) (st:Nat→Nat) (Bw Bm Bs b off cap N0 N p:Nat) (w:World) (hW:dE w Bw Bm (some ⟨b,off,none⟩) cap zs N0 T) (hS:iJ w Bs N st) (hne:Bs≠Bm) (hp:p < zs.length) (hB:Wb.DX zs h st p) (hD:Wb.yZ zs h st)
 (hst:st (Wb.hd zs h p) = 0) (hN:N+2 * Wb.fr zs st≤20000)
 (hL:∀ (st1:Nat→Nat) (N1 q:Nat) (W:World),Wb.fr zs st1 < Wb.fr zs st→q < zs.length→dE W Bw Bm (some ⟨b,off,none⟩) cap zs N0 T→iJ W Bs N1 st1→Wb.DX zs h st1 q→Wb.yZ zs h st1→N1+2 * Wb.fr zs st1≤20000 →
   Calls Tryz.prog 139 #[.pointer (some ⟨Bw,0,none⟩),.int .i64 (q:Int),.map (some Bs)] W fun e W'=>aW W.heap.size Bs W W'∧JM W' e Bs N1 zs h st1 q) :
 Calls Tryz.prog 139 #[.pointer (some ⟨Bw,0,none⟩),.int .i64 (p:Int),.map (some Bs)] w fun e w'=>aW w.heap.size Bs w w'∧JM w' e Bs N zs h st p:=by
 obtain ⟨F,hF⟩:∃ F,F = Fence.wide:=⟨_,rfl⟩;refine (callsIn_wide (n:=3)).1 ?_;rw [← hF];obtain ⟨hro,hfn,hdd,jv⟩:=fC hF;have qz:Hid (Pl F):=by rw [hF];exact iZ
 clear hF;have hf1:=hfn 139;have hf2:=hfn 137;have hf3:=hfn 101;have PU:=hfn 123;clear hfn;have hl5:=G.len;have Vp:(zs.length:Int)≤5000:=by omega
 have hB0:Below w.heap.size w (((w.alloc (.cells #[.pointer (some ⟨Bw,0,none⟩)] 163)).alloc (.cells #[.map (some Bs)] 154)).alloc (.cells #[.bool false] 4)) :=
  (((Below.refl _ w).alloc (Nat.le_refl _) _).alloc (by simp) _).alloc (by simp;omega) _
 have bW:=((Boxed.new w 163 (.pointer (some ⟨Bw,0,none⟩))).alloc (.cells #[.map (some Bs)] 154)).alloc (.cells #[.bool false] 4);have bS:=(Boxed.new (w.alloc (.cells #[.pointer (some ⟨Bw,0,none⟩)] 163)) 154 (.map (some Bs))).alloc (.cells #[.bool false] 4);have bR:=Boxed.new ((w.alloc (.cells #[.pointer (some ⟨Bw,0,none⟩)] 163)).alloc (.cells #[.map (some Bs)] 154)) 4 (.bool false);simp only [World.size_alloc] at bS bR;have hH:=hid (yQ F qz.out (3 - 1) zs T h G S Bw Bm _ cap N0 p hp _ (hW.below hB0));have hS0:=hS.keep (hB0.block _ hS.lt);have hW0:=hW.below hB0;have hs3:(((w.alloc (.cells #[.pointer (some ⟨Bw,0,none⟩)] 163)).alloc (.cells #[.map (some Bs)] 154)).alloc (.cells #[.bool false] 4)).heap.size = w.heap.size+1+1+1:=by simp
 obtain ⟨W3,hW3⟩:∃ W3,((w.alloc (.cells #[.pointer (some ⟨Bw,0,none⟩)] 163)).alloc (.cells #[.map (some Bs)] 154)).alloc (.cells #[.bool false] 4) = W3:=⟨_,rfl⟩;have HW3:=hid hW3;rw [hW3] at hB0 bW bS bR hH hS0 hW0 hs3;obtain ⟨M,hM,hms⟩:=hS0;have hcW:=bW.cell;have hcS:=bS.cell;obtain ⟨hr1,_,_⟩:=Wb.nQ G S hp;have hwf:=wfN (n:=Wb.hd zs h p) (by omega);have hmr:=(hms (Wb.hd zs h p)).1;rw [hst] at hmr;have hbl:b < w.heap.size:=by
  obtain ⟨b',off',e,hb,_⟩:=hW.ints.at (by omega);cases e;exact hb
 obtain ⟨hwl,hml⟩:=hW.lt;have OH:=hS.lt;obtain ⟨es,ck,hmap⟩:=hM.map;have hwn:Bw≠Bs:=lC hW0.cell0 hmap;have hbn:b≠Bs:=by
  obtain ⟨b',off',e,hb,hc⟩:=hW0.ints.at (by omega);cases e;exact lC (hc 0 (by omega)) hmap
 have hfr:=Wb.Sc (v:=1) hr1 hst (by omega);have Hms:=hid hms;have HMp:=hid hM;have HG:=hid G;have HSt:=hid S;have HB:=hid hB;have HD:=hid hD;have HL:=hid hL;have Xj:=hid hst;have hcl:=hid (fun st1 (L:Wb.Left zs h (Wb.lD st (Wb.hd zs h p) 1) st1) K=>Wb.Left.close HG.out HSt.out hp Xj.out L K);have aeS:=hid (fun st1 i hi hs=>Wb.PX (st1:=st1) (i:=i) HG.out HSt.out hp HB.out hi hs);have hd1:=hid (Wb.LD HD.out (Wb.hd zs h p));clear hW3 G S hM hms hW hS hB hD hL hst hmap;generalize Wb.hd zs h p = r at *;refine callsIn_of_wp_marks Tryz.func139 rfl hf1 ?_ hro;simp only [Tryz.ntmps139,List.size_toArray,List.length_cons,List.length_nil,Nat.reduceAdd,Nat.reduceSub,Array.replicate_succ,Array.replicate_zero,List.push_toArray,List.append_toArray,List.nil_append,List.cons_append];gi_wp2_with (first
  | ((try refine ⟨hdd _,?_⟩);gi_at_call 137;rw [HW3.out];refine hH.out.mono ?_;clear hH;rintro e W3 ⟨rfl,rfl⟩)
  | (gi_at_lookup;(refine DY _ rfl _ _ 154 rfl 3 Tryz.underlying154 (lZ _) Bs N M rfl HMp.out (r:Int) rfl hwf (.int .i64 0) hmr ?_))
  | (gi_at_mapUpdate;(refine DZ _ rfl _ _ _ 154 rfl 3 Tryz.underlying154 Bs N M rfl HMp.out (by unfold maxLen;omega) (r:Int) rfl hwf (.int .i64 1) rfl ?_);intro W4 hM4 hg4;have k4:∀ k,k < W3.heap.size→k≠Bs→W4.heap[k]? = W3.heap[k]?:=(fun k hk hn=>hg4.block k hk (by simpa using hn));have hs4:=hg4.size;have bW4:Boxed W4 w.heap.size 163 (.pointer (some ⟨Bw,0,none⟩)):=(k4 _ bW.lt (by omega)).trans bW;have bS4:Boxed W4 (w.heap.size+1) 154 (.map (some Bs)):=(k4 _ bS.lt (by omega)).trans bS;have Dg:Boxed W4 (w.heap.size+1+1) 4 (.bool false):=(k4 _ bR.lt (by omega)).trans bR;have qd:=hW0.of (k4 Bw (by omega) hwn) (k4 Bm (by omega) (fun e=>hne e.symm)) (k4 b (by omega) hbn) (by omega);have d1:=bW4.cell;have d2:=qd.cell0)
  | ((try refine ⟨hdd _,?_⟩);gi_at_call 101;refine (j6 F qz.out _ _ _ _ _ _).mono ?_;rintro e w' ⟨rfl,rfl⟩))
 have hs6:((W4.alloc (.cells #[.slice (some ⟨b,off,none⟩) zs.length cap] 35)).alloc (.cells #[.int .i64 (r:Int)] 3)).heap.size = W4.heap.size+1+1:=by simp
 have bT6:=(Boxed.new W4 35 (.slice (some ⟨b,off,none⟩) zs.length cap)).alloc (.cells #[.int .i64 (r:Int)] 3);have bK6:=Boxed.new (W4.alloc (.cells #[.slice (some ⟨b,off,none⟩) zs.length cap] 35)) 3 (.int .i64 (r:Int));rw [World.size_alloc] at bK6;have bW6:=(bW4.alloc (.cells #[.slice (some ⟨b,off,none⟩) zs.length cap] 35)).alloc (.cells #[.int .i64 (r:Int)] 3);have bS6:=(bS4.alloc (.cells #[.slice (some ⟨b,off,none⟩) zs.length cap] 35)).alloc (.cells #[.int .i64 (r:Int)] 3);have bR6:=(Dg.alloc (.cells #[.slice (some ⟨b,off,none⟩) zs.length cap] 35)).alloc (.cells #[.int .i64 (r:Int)] 3);have Yb:Below W4.heap.size W4 ((W4.alloc (.cells #[.slice (some ⟨b,off,none⟩) zs.length cap] 35)).alloc (.cells #[.int .i64 (r:Int)] 3)):=((Below.refl _ W4).alloc (Nat.le_refl _) _).alloc (by simp) _;have hK4:aW w.heap.size Bs w W4:=(aW.of_below hB0).trans ⟨hg4.os,hg4.tape,hg4.output,hg4.size,fun k hk hn=>k4 k (by omega) hn⟩;have hS6:iJ ((W4.alloc (.cells #[.slice (some ⟨b,off,none⟩) zs.length cap] 35)).alloc (.cells #[.int .i64 (r:Int)] 3)) Bs (N+1) (Wb.lD st r 1):=(iJ.set (v:=1) Hms.out (by decide) hM4).keep (Yb.block _ (by omega));refine dU hro (by omega) (gf:=123) (lb:=#[.pointer (some ⟨W4.heap.size+1,0,none⟩),.pointer (some ⟨W4.heap.size,0,none⟩)]) rfl PU (enters_of Tryz.func123 (by kernel_rfl) rfl)
  (iM F qz.out _ (W4.heap.size+1) W4.heap.size r cap (some ⟨b,off,none⟩) zs hl5 hr1 (jF F qz.out zs hl5 _ cap r)) (fun _=>rfl)
  (OI w W4.heap.size Bw Bm Bs b off cap N0 N zs T h st r)
  (fun c W=>c = .ret∧Wb.None zs h∧Boxed W (w.heap.size+1+1) 4 (.bool true)∧aW w.heap.size Bs w W) (fun _ _=>False) (.inl fun _ _ h=>h)
  (OI.own hwl hml hbl OH (by rw [hs6];omega))
  (by
    rintro c X Y row ⟨e,hN,hB,hK⟩ hg hr;exact ⟨e,hN,(boxed_own (w.heap.size+1+1) 4 (fun _:Unit=>.bool true)).from _ () X Y row hB hg hr,yV (by rw [hs6];omega) hK hg hr⟩)
  (fun i W hI=>⟨hI.bK.cell,hI.bT.cell,hI.JF.ints⟩)
  ⟨⟨_,_,Wb.Left.refl hd1.out,hS6,Nat.le_refl _,fun j hj=>by omega⟩,qd.below Yb,bW6,bS6,bR6,bK6,bT6,hK4.trans (aW.of_below (Yb.mono hK4.size))⟩
  (fun i=>{ tmps:=#[.pointer (some ⟨Bw,0,none⟩),.int .i64 (r:Int),.map (some Bs),.pointer (some ⟨w.heap.size,0,none⟩),undef,.pointer (some ⟨w.heap.size+1,0,none⟩),.pointer (some ⟨w.heap.size+1+1,0,none⟩),.int .i64 (Tm.pos zs r i:Int),.pointer (some ⟨Bw,0,none⟩),.int .i64 (p:Int),.int .i64 (r:Int),.map (some Bs),.int .i64 (r:Int),.int .i64 0,.bool false,.bool false,.bool false,.bool false,.map (some Bs),.int .i64 (r:Int),
    .pointer (some ⟨Bw,0,none⟩),.pointer (some ⟨Bw,0,none⟩),.pointer (some ⟨Bw,0,none⟩),.slice (some ⟨b,off,none⟩) zs.length cap,.int .i64 (r:Int),.func (.func 123) #[] #[.pointer (some ⟨W4.heap.size+1,0,none⟩),.pointer (some ⟨W4.heap.size,0,none⟩)],.int .i64 (Tm.pos zs r i:Int),.int .i64 (Tm.pos zs r (i+1):Int),undef,undef,undef,undef,undef,undef],defers:=[] }) ?assign ?body ?done ?stop ?panic
 case assign =>
  intro l i W K hK;simp only [ni];gi_wp2
  exact hK
 case body =>
  rintro l i W hI hi;have hi':i < Tm.room (Wb.sg zs r):=hi;obtain ⟨⟨st1,N1,Yc,hSm,hn,hfin⟩,qC,bW,bS,bR,bK,bT,hK⟩:=hI;have hkl:=Wb.jL HG.out hr1 hi';have hfl:=Yc.less;have hC:=HL.out st1 N1 (Tm.pos zs r i) W (by omega) hkl qC hSm (aeS.out st1 i hi' Yc.one) Yc.OG (by omega);have Xk:=hid (CallsIn.inRound l (jv (n:=0) (Xo hC)));have e1:=bW.cell;have e2:=bS.cell;have hnb:∀ k,w.heap.size≤k→k≠Bs:=fun k hk e=>by omega
  clear hC;gi_wp2_with (first
   | ((try refine ⟨hdd _,?_⟩);gi_at_call 139;refine Xk.out.mono ?_;clear Xk;rintro e W1 ⟨q,rfl,hK1,hq⟩;have bW1:Boxed W1 w.heap.size 163 (.pointer (some ⟨Bw,0,none⟩)):=(hK1.block _ bW.lt (hnb _ (by omega))).trans bW;have LF:Boxed W1 (w.heap.size+1) 154 (.map (some Bs)):=(hK1.block _ bS.lt (hnb _ (by omega))).trans bS;have U8:Boxed W1 (w.heap.size+1+1) 4 (.bool false):=(hK1.block _ bR.lt (hnb _ (by omega))).trans bR;have bK1:Boxed W1 (W4.heap.size+1) 3 (.int .i64 (r:Int)):=(hK1.block _ bK.lt (hnb _ (by omega))).trans bK;have bT1:Boxed W1 W4.heap.size 35 (.slice (some ⟨b,off,none⟩) zs.length cap):=(hK1.block _ bT.lt (hnb _ (by omega))).trans bT;have cR:=U8.cell;have fR:=U8.frozen;have Xl:aW w.heap.size Bs w W1:=hK.trans (hK1.mono hK.size);have R6:KeepsFrom (W4.heap.size+1+1) W W1:=⟨hK1.size,fun k o hk ho _=>(hK1.block k (Array.getElem?_eq_some_iff.1 ho).1 (hnb k (by omega))).trans ho⟩;rcases hq with ⟨rfl,yT⟩ | ⟨rfl,hFn,st2,N2,hL2,hS2,hn2⟩))
  ·rw [hs6]
   exact ⟨R6.trans ((KeepsOthers.setCell _ _ _).from _),rfl,yT,U8.set _,DV Xl (by omega) _⟩
  ·rw [hs6]
   have hsz:=hK.size;refine ⟨R6,⟨st2,N2,Yc.trans hL2,hS2,by omega,fun j hj=>?_⟩,qC.of (hK1.block _ (by omega) hwn) (hK1.block _ (by omega) (fun e=>hne e.symm)) (hK1.block _ (by omega) hbn) (by have:=hK1.size;omega),bW1,LF,U8,bK1,bT1,Xl⟩;by_cases e:j = i
   ·subst e;exact hFn
   ·exact hfin j (by omega)
 case done =>
  rintro D W hD hI qA;obtain ⟨⟨st1,N1,Yc,⟨M1,hM1,aeW⟩,hn,hfin⟩,qC,bW,bS,bR,bK,bT,hK⟩:=hI;have hfl:=Yc.less;have e2:=bS.cell;obtain ⟨Si,Sj,hless⟩:=hcl.out st1 Yc hfin;have hsz:=hK.size;rw [hs6] at hD;gi_wp2_with (first
   | (gi_at_mapUpdate;(refine DZ _ rfl _ _ _ 154 rfl 3 Tryz.underlying154 Bs N1 M1 rfl hM1 (by unfold maxLen;omega) (r:Int) rfl hwf (.int .i64 2) rfl ?_);intro W7 hM7 hg7;have k7:∀ k,k < W.heap.size→k≠Bs→W7.heap[k]? = W.heap[k]?:=(fun k hk hn=>hg7.block k hk (by simpa using hn));have Yd:Boxed W7 (w.heap.size+1+1) 4 (.bool false):=(k7 _ bR.lt (by omega)).trans bR;have cR:=Yd.cell;have fR:=Yd.frozen))
  have akk:=Wb.PY zs st1 r 2 (by omega);have hDl:D < W.heap.size:=(Array.getElem?_eq_some_iff.1 qA).1;have qB:(W7.setCell ⟨w.heap.size+1+1,0,none⟩ (.bool false)).heap[D]? = some (.deferred (some [])):=(Below.heap_setCell W7 ⟨w.heap.size+1+1,0,none⟩ _ D (show D≠w.heap.size+1+1 by omega)).trans ((k7 D hDl (by omega)).trans qA);refine ⟨by simp,.inl ⟨_,_,rfl,run_takeDeferred qB,?_⟩⟩;refine ⟨_,ja rfl rfl ((World.cell?_of_block (a:=⟨w.heap.size+1+1,0,none⟩) (World.putObj_heap_other (show w.heap.size+1+1≠D by omega))).trans (Yd.set _).cell),?_⟩;have akl:=hg7.size;have akm:=(KeepsWalks.setCell W7 ⟨w.heap.size+1+1,0,none⟩ (.bool false)).size;have hkk:∀ k,k < w.heap.size→((W7.setCell ⟨w.heap.size+1+1,0,none⟩ (.bool false)).putObj D (.deferred none)).heap[k]? = W7.heap[k]?:=fun k hk=>(World.putObj_heap_other (by omega)).trans (Below.heap_setCell W7 ⟨w.heap.size+1+1,0,none⟩ _ k (show k≠w.heap.size+1+1 by omega))
  refine ⟨⟨hg7.os.trans hK.os,hg7.tape.trans hK.tape,hg7.output.trans hK.output,by simp;omega,fun k hk hm=>(hkk k hk).trans ((k7 k (by omega) hm).trans (hK.block k hk hm))⟩,.inr ⟨rfl,Si,_,N1+1,Sj,(iJ.set (v:=2) aeW (by decide) hM7).keep (hkk Bs OH),by omega⟩⟩
 case stop =>
  rintro D c W hD ⟨rfl,hN,bR,hK⟩ qA;have c1:=bR.cell;rw [hs6] at hD;gi_wp2
  refine ⟨by simp,.inl ⟨_,_,rfl,run_takeDeferred qA,?_⟩⟩;refine ⟨_,ja rfl rfl ((World.cell?_of_block (a:=⟨w.heap.size+1+1,0,none⟩) (World.putObj_heap_other (show w.heap.size+1+1≠D by omega))).trans c1),?_⟩;exact ⟨⟨hK.os,hK.tape,hK.output,by have:=hK.size;simp;omega,fun k hk hm=>(World.putObj_heap_other (by omega)).trans (hK.block k hk hm)⟩,.inl ⟨rfl,hN⟩⟩
 case panic=>exact fun _ _ _ _ h=>h.elim
end
theorem Sk (zs:List Int) (G:Wb.Good zs) (T:Nat→Option Nat) (h:Nat→Nat) (S:Wb.St zs T h) (Bw Bm Bs b off cap N0:Nat) (hne:Bs≠Bm):∀ (m:Nat) (st:Nat→Nat),Wb.fr zs st≤m→∀ (N p:Nat) (w:World),p < zs.length→dE w Bw Bm (some ⟨b,off,none⟩) cap zs N0 T→iJ w Bs N st→Wb.DX zs h st p→Wb.yZ zs h st→N+2 * Wb.fr zs st≤20000 →
 Calls Tryz.prog 139 #[.pointer (some ⟨Bw,0,none⟩),.int .i64 (p:Int),.map (some Bs)] w fun e w'=>aW w.heap.size Bs w w'∧JM w' e Bs N zs h st p:=by
 intro m;induction m with
 | zero =>
  intro st hm N p w hp hW hS hB hD hN;by_cases h0:st (Wb.hd zs h p) = 0
  ·exact JN zs G T h S st Bw Bm Bs b off cap N0 N p w hW hS hne hp hB hD h0 hN (fun st1 N1 q W hf=>by omega)
  ·exact (F5 zs G T h S st Bw Bm Bs _ cap N0 N p w hW hS hp hB hD (by have:=hS.le (Wb.hd zs h p);omega)).mono fun _ _ ⟨hB,hA⟩=>⟨aW.of_below hB,hA⟩
 | succ m ih =>
  intro st hm N p w hp hW hS hB hD hN;by_cases h0:st (Wb.hd zs h p) = 0
  ·exact JN zs G T h S st Bw Bm Bs b off cap N0 N p w hW hS hne hp hB hD h0 hN (fun st1 N1 q W hf hq hW1 hS1 hB1 hD1 hN1=>ih st1 (by omega) N1 q W hq hW1 hS1 hB1 hD1 hN1)
  ·exact (F5 zs G T h S st Bw Bm Bs _ cap N0 N p w hW hS hp hB hD (by have:=hS.le (Wb.hd zs h p);omega)).mono fun _ _ ⟨hB,hA⟩=>⟨aW.of_below hB,hA⟩
theorem abH (zs:List Int) (st:Nat→Nat):Wb.fr zs st≤zs.length:=by
 unfold Wb.fr;have:=List.length_filter_le (fun q=>decide (st q = 0)) (List.range zs.length)
 simpa using this
theorem Fw (zs:List Int) (G:Wb.Good zs) (T:Nat→Option Nat) (h:Nat→Nat) (S:Wb.St zs T h) (Bw Bm b off cap N0:Nat) (w:World) (hW:dE w Bw Bm (some ⟨b,off,none⟩) cap zs N0 T) :
 Calls Tryz.prog 135 #[.pointer (some ⟨Bw,0,none⟩)] w fun e w'=>Below w.heap.size w w'∧((e = .returned (.bool true)∧Wb.None zs h)∨(e = .returned (.bool false)∧∀ i,i < 8→Wb.Fin zs h i)):=by
 have hmm:=@run_makeMap Tryz.prog;have hlt:=hW.lt;have h8:=G.eight;have hl5:=G.len;have HG:=hid G;have HS:=hid S;have HW:=hid hW;clear G S hW;have hB0:Below w.heap.size w (w.alloc (.map #[] 0)):=(Below.refl _ _).alloc (Nat.le_refl _) _;go_enter Tryz.func135,Tryz.ntmps135;go_wp2;go_loopw [6] (fun i wr=>∃ (k:Nat) (st:Nat→Nat) (N:Nat),k≤8∧i = .int .i64 (k:Int)∧Hid (iJ wr w.heap.size N st)∧Hid (∀ x,st x≠1)∧Hid (Wb.yZ zs h st)∧N+2 * Wb.fr zs st≤20000∧Hid (∀ j,j < k→Wb.Fin zs h j)∧Below w.heap.size w wr) (fun i _=>8 - (intOf i).toNat)
 case atStart=>exact ⟨0,fun _=>0,0,by omega,rfl,iJ.made w,fun _ e=>by simp at e,fun _ _ e=>by simp at e,by have:=abH zs (fun _=>0);omega,fun j hj=>by omega,hB0⟩
 case round =>
  obtain ⟨k,st,N,hk,rfl,hSm,hno,hD,hN,hfin,hB⟩:=hrel;by_cases akn:k < 8
  ·have hlt':(k:Int) < 8:=by omega
   have hC:=Xo (Sk zs HG.out T h HS.out Bw Bm w.heap.size b off cap N0 (by omega) _ st (Nat.le_refl _) N k wr (by omega) (by
    obtain ⟨b',off',e,hb,_⟩:=HW.out.ints.at (by omega);cases e;exact HW.out.of (hB.block _ hlt.1) (hB.block _ hlt.2) (hB.block _ hb) (by have:=hB.size;omega)) hSm.out (fun θ _ _ q _ e=>absurd e (hno.out q)) hD.out hN)
   go_wp2_with (first
    | (go_at_call 139;refine hC.mono ?_;clear hC;rintro e w1 ⟨q,rfl,hK1,hq⟩;have hB1:Below w.heap.size w w1:=hB.trans ((hK1.mono hB.size).below (Nat.le_refl _));rcases hq with ⟨rfl,yT⟩ | ⟨rfl,hFn,st2,N2,hL2,hS2,hn2⟩))
   ·go_ret
    exact ⟨hB1,.inl ⟨rfl,yT⟩⟩
   ·go_roundw
    case rel =>
     refine ⟨k+1,st2,N2,by omega,by go_num,hS2,fun x e=>hno.out x ((hL2.one x).1 e),hL2.OG,by omega,fun j hj=>?_,hB1⟩;by_cases e:j = k
     ·subst e;exact hFn
     ·exact hfin.out j (by omega)
    case measure=>simp [intOf];omega
  ·obtain rfl:k = 8:=by omega
   go_wp2;go_ret;exact ⟨hB,.inr ⟨rfl,hfin.out⟩⟩
end Go.Proofs.YtglohanbpjaieaaGreat
namespace Go.Proofs.YtglohanbpjaieaaGreat
open Go.Proofs Go.RowKit Go.Shelf
namespace Wb
theorem qY.run {zs:List Int} {h:Nat→Nat} {p:Nat} {l:List Int} (H:qY zs h p l):Tm.run l 1 = l.length:=by
 induction H with
 | mk p ls hl _ ih =>
  rw [show (1:Nat) = 0+1 from rfl,Tm.bU,Nat.zero_add,← hl,Tm.qD ls (fun j hj=>ih j (by omega)),List.length_cons];omega
theorem qY.vars {zs:List Int} (G:Good zs) {T:Nat→Option Nat} {h:Nat→Nat} (S:St zs T h) {p:Nat} {l:List Int} (H:qY zs h p l):p < zs.length→∀ s∈l,-8≤s∧s < 6:=by
 induction H with
 | mk p ls hl _ ih =>
  intro hp s hs;have hq:=(nQ G S hp).1;rcases List.mem_cons.1 hs with rfl | hs
  ·exact G.known _ hq
  ·obtain ⟨x,hx,hsx⟩:=List.mem_flatten.1 hs
   obtain ⟨i,hi,e⟩:=List.getElem_of_mem hx;have hi':i < Tm.room (sg zs (hd zs h p)):=by omega
   refine ih i hi' (jL G hq hi') s ?_;rw [List.getElem?_eq_getElem hi,Option.getD_some,e];exact hsx
structure Sigma (zs:List Int) (h:Nat→Nat) (σ:Sb):Prop where
 exp:∀ i,i < 8→qY zs h i (σ (-1 - (i:Int)))
 term:TermSb σ
 vars:∀ v,-8≤v→v < 0→LC (σ v)
 ako:iY zs h σ
 most:∀ θ,iY zs h θ→∀ v,-8≤v→v < 0→θ v = App θ (σ v)
 least:∀ v u,-8≤v→v < 0→σ v = [u]→u < 0→v≤u
theorem Sigma.of {zs:List Int} (G:Good zs) {T:Nat→Option Nat} {h:Nat→Nat} (S:St zs T h) (C:Closed zs h []) (F:∀ i,i < 8→Fin zs h i):∃ σ,Sigma zs h σ:=by
 have hc:∀ i,∃ l,i < 8→qY zs h i l:=fun i=>by
  by_cases hi:i < 8
  ·obtain ⟨l,hl⟩:=(F i hi).exp
   exact ⟨l,fun _=>hl⟩
  ·exact ⟨[],fun hi'=>absurd hi' hi⟩
 obtain ⟨f,hf⟩:=Classical.axiomOfChoice hc;have h8:=G.eight;obtain ⟨σ,hσd⟩:∃ σ:Sb,σ = fun s=>if -8≤s∧s < 0 then f (-1 - s).toNat else [s]:=⟨_,rfl⟩
 have hin:∀ i:Nat,i < 8→σ (-1 - (i:Int)) = f i:=fun i hi=>by
  rw [hσd];show (if -8≤-1 - (i:Int)∧-1 - (i:Int) < 0 then _ else _) = _;rw [if_pos ⟨by omega,by omega⟩];congr 1;omega
 have LG:∀ i:Nat,i < 8→qY zs h i (σ (-1 - (i:Int))):=fun i hi=>by rw [hin i hi];exact hf i hi
 have hv:∀ v,-8≤v→v < 0→∃ i:Nat,i < 8∧v = -1 - (i:Int):=fun v h1 h2=>⟨(-1 - v).toNat,by omega,by omega⟩
 refine ⟨σ,LG,fun s hs=>?_,fun v h1 h2=>?_,fun p hp cp=>?_,fun θ R v h1 h2=>?_,fun v u h1 h2 e hu=>?_⟩
 ·by_cases h1:-8≤s
  ·obtain ⟨i,hi,rfl⟩:=hv s h1 hs
   exact (LG i hi).run
  ·rw [hσd]
   show Tm.run (if -8≤s∧s < 0 then _ else _) 1 = (if -8≤s∧s < 0 then _ else _:List Int).length;rw [if_neg (fun e=>h1 e.1),show (1:Nat) = 0+1 from rfl,Tm.bU,gM hs,Tm.cZ];rfl
 ·obtain ⟨i,hi,rfl⟩:=hv v h1 h2
  exact fun s hs _=>((LG i hi).vars G S (by omega) s hs).1
 ·have e1:=qY.yY G S C LG _ p (Nat.le_refl _) hp
  obtain ⟨r1,r2,r3⟩:=S.root p hp cp;have e2:=qY.yY G S C LG _ (h p) (Nat.le_refl _) r1;refine (e1.move ?_).one _ e2;show h (can zs p) = h (can zs (h p));rw [cp,r2,r3]
 ·obtain ⟨i,hi,rfl⟩:=hv v h1 h2
  have hm:=(LG i hi).most G S R (by omega);rw [qp G (by omega) (by rw [G.vars i hi];omega),G.vars i hi,App_cons,if_pos (by omega),oO,List.append_nil] at hm;exact hm
 ·obtain ⟨i,hi,rfl⟩:=hv v h1 h2
  have he:=LG i hi;rw [e] at he;have hup:=Xi G S (p:=i) (by omega);rw [G.vars i hi] at hup;generalize hl:[u] = l at he;cases he with
  | mk _ ls _ _ =>
   obtain ⟨rfl,_⟩:=List.cons.inj hl;exact hup
end Wb
end Go.Proofs.YtglohanbpjaieaaGreat
namespace Go.Proofs.YtglohanbpjaieaaGreat
open Go.Proofs Go.RowKit Go.Shelf Go.Maps
def LH (W:World) (Bw Bm:Nat) (v:Value) (zs:List Int):Prop:=W.heap[Bw]? = some (.cells #[v,.map (some Bm)] 168 (0,0))∧New (Bw+1) W v zs
end Go.Proofs.YtglohanbpjaieaaGreat
namespace Go.Proofs.YtglohanbpjaieaaGreat
open Go.Proofs Go.RowKit Go.Shelf
namespace Wb
theorem mF {zs t:List Int} {p:Nat} (hp:p < zs.length):sg (zs++t) p = sg zs p:=by unfold sg;rw [List.getElem?_append_left hp]
theorem Dh {zs t:List Int} {p:Nat} (hp:p < zs.length):can (zs++t) p = can zs p:=by unfold can;rw [mF hp]
theorem OJ {zs t:List Int} (G:Good zs) {p:Nat} (hp:p < zs.length):Tm.ai (zs++t) p = Tm.ai zs p:=by
 have h:=Tm.mq (pre:=[]) (t:=zs) (post:=t) (k:=p) (by omega) (G.ends p hp);simpa using h
theorem nS {zs t:List Int} (G:Good zs) {p:Nat} (hp:p < zs.length):cont (zs++t) p = cont zs p:=by
 have h:=Tm.y8 (pre:=[]) (t:=zs) (post:=t) (k:=p) (by omega) (G.ends p hp);simpa [cont] using h
theorem OL {zs t:List Int} (G:Good zs) {p:Nat} (hp:p < zs.length):∀ i,i≤Tm.room (sg zs p)→Tm.pos (zs++t) p i = Tm.pos zs p i:=by
 intro i;induction i with
 | zero=>intro _;rw [Tm.dB,Tm.dB]
 | succ i ih =>
  intro hi;rw [Tm.ed,Tm.ed,ih (by omega)];exact OJ G (jL G hp (by omega))
theorem Good.ext {zs t:List Int} (G:Good zs) (ht:Tm.err t = 0) (hl:zs.length+t.length≤5000):Good (zs++t):=by
 refine ⟨by rw [List.length_append];exact hl,by rw [List.length_append];have:=G.eight;omega,fun p hp=>?_,fun i hi=>?_,fun p hp=>?_⟩
 ·by_cases h:p < zs.length
  ·rw [mF h];exact G.known p h
  ·rw [List.length_append] at hp
   have hk:=Tm.lq (Tm.dH ht) (k:=p - zs.length) (by omega);have e:sg (zs++t) p = t[p - zs.length]?.getD 0:=by unfold sg;rw [List.getElem?_append_right (by omega)]
   rw [e];exact ⟨Tm.iK hk,Tm.gK hk⟩
 ·rw [mF (by have:=G.eight;omega)];exact G.vars i hi
 ·rw [List.length_append] at hp ⊢
  by_cases h:p < zs.length
  ·rw [OJ G h];have:=G.ends p h;omega
  ·have he:=Tm.fV ht (k:=p - zs.length) (by omega)
   have h2:=Tm.mq (pre:=zs) (t:=t) (post:=[]) (k:=p - zs.length) (by omega) he;rw [List.append_nil,show zs.length+(p - zs.length) = p from by omega] at h2;omega
theorem St.ext {zs t:List Int} {T:Nat→Option Nat} {h:Nat→Nat} (S:St zs T h):St (zs++t) T h:=by
 have hc:∀ p,p < zs.length→can (zs++t) p = can zs p:=fun p hp=>Dh hp
 have hle:zs.length≤(zs++t).length:=by rw [List.length_append];omega
 refine ⟨fun p h1 h2=>?_,fun p h1 h2=>?_,fun p q h1 h2 h3=>?_,?_,fun p h1 h2=>?_,fun p hp=>S.out p (by omega)⟩
 ·by_cases hp:p < zs.length
  ·obtain ⟨a,b,c⟩:=S.root p hp (by rw [← hc p hp];exact h2)
   exact ⟨by omega,by rw [hc _ a];exact b,c⟩
  ·obtain ⟨a,_⟩:=S.out p (by omega)
   rw [a];exact ⟨h1,h2,a⟩
 ·by_cases hp:p < zs.length
  ·exact S.free p hp (by rw [← hc p hp];exact h2)
  ·obtain ⟨a,b⟩:=S.out p (by omega)
   simp [a,b]
 ·by_cases hp:p < zs.length
  ·obtain ⟨a,b,c⟩:=S.next p q hp (by rw [← hc p hp];exact h2) h3
   exact ⟨by omega,by rw [hc _ a];exact b,c⟩
  ·obtain ⟨_,b⟩:=S.out p (by omega)
   rw [b] at h3;cases h3
 ·obtain ⟨st,hst⟩:=S.down
  refine ⟨st,fun p q h1 h2 h3=>?_⟩;by_cases hp:p < zs.length
  ·exact hst p q hp (by rw [← hc p hp];exact h2) h3
  ·obtain ⟨_,b⟩:=S.out p (by omega)
   rw [b] at h3;cases h3
 ·by_cases hp:p < zs.length
  ·have h2':can zs p = p:=by rw [← hc p hp];exact h2
   obtain ⟨a,_,_⟩:=S.root p hp h2';rw [mF hp,mF a];exact S.up p hp h2'
  ·rw [(S.out p (by omega)).1];exact Int.le_refl _
theorem BI {zs t:List Int} {h:Nat→Nat} {p:Nat} (hp:p < zs.length):hd (zs++t) h p = hd zs h p:=by unfold hd;rw [Dh hp]
theorem iY.ext {zs t:List Int} (G:Good zs) {T:Nat→Option Nat} {h:Nat→Nat} (S:St zs T h) {θ:Sb} (R:iY zs h θ):iY (zs++t) h θ:=fun p hp cp=>by
 by_cases h1:p < zs.length
 ·have cp':can zs p = p:=by rw [← Dh (t:=t) h1];exact cp
  obtain ⟨a,_,_⟩:=S.root p h1 cp';rw [nS G h1,nS G a];exact R p h1 cp'
 ·rw [(S.out p (by omega)).1]
theorem Closed.ext {zs t:List Int} (G:Good zs) {T:Nat→Option Nat} {h:Nat→Nat} (S:St zs T h) (G':Good (zs++t)) (C:Closed zs h []):Closed (zs++t) h []:=fun p q hp hq sp sq e=>by
 by_cases h1:p < zs.length
 ·by_cases h2:q < zs.length
  ·rw [mF h1] at sp
   rw [mF h2] at sq;obtain ⟨e1,e2⟩:=C p q h1 h2 sp sq e;rw [mF h1,mF h2];refine ⟨e1,fun i hi=>?_⟩;rw [OL G h1 i (by omega),OL G h2 i (by rw [← e1];omega)];have a:=jL G h1 hi;have b:=jL G h2 (i:=i) (by rw [← e1];exact hi);exact .base _ _ (by rw [List.length_append];omega) (by rw [List.length_append];omega) (by rw [BI a,BI b];exact OE (e2 i hi))
  ·rw [mF h1] at sp
   have:=(S.root p h1 (oM sp)).1
   rw [e,(S.out q (by omega)).1] at this;exact absurd this h2
 ·by_cases h2:q < zs.length
  ·rw [mF h2] at sq
   have:=(S.root q h2 (oM sq)).1
   rw [← e,(S.out p (by omega)).1] at this;exact absurd this h1
  ·rw [(S.out p (by omega)).1,(S.out q (by omega)).1] at e
   subst e;exact ⟨rfl,fun i hi=>.base _ _ (jL G' hp hi) (jL G' hp hi) rfl⟩
end Wb
end Go.Proofs.YtglohanbpjaieaaGreat
namespace Go.Proofs.YtglohanbpjaieaaGreat
open Go.Proofs Go.RowKit Go.Shelf Go.Maps
theorem JO (w:World) (ty:TypeId) (base:Nat) (v:Value) (xs:List Int) (hN:New base w v xs) (B:Nat) (y:Int) (hB:w.cell? ⟨B,0,none⟩ = some (.int .i64 y)) (hlen:xs.length≤1000000) (hbase:base≤w.heap.size) :
 ∃ v' w',(Builtin.append_ #[35,35] ty #[v,.slice (some ⟨B,0,none⟩) 1 1]).run Tryz.prog w = .ok v' w'∧New base w' v' (xs++[y])∧w.grownBy w' v.ownBlock∧(v'.ownBlock = v.ownBlock∨v'.ownBlock = some w.heap.size):=by
 obtain ⟨i0,hi,hz0,hz1,hz2⟩:=info_parts Tryz.info3;have hc:∀ j u,[Value.int .i64 y][j]? = some u→w.cell? ((⟨B,0,none⟩:Addr).add j) = some u:=by
  intro j z hj;match j,hj with
  | 0,hj=>simp at hj;subst hj;rw [Go.WideShapes.add_plain];simpa using hB
 have h1:∀ u∈[Value.int .i64 y],u.oneCell' = true:=by intro z hz;simp at hz;subst hz;rfl
 obtain ⟨v',w',hr,r1,r2,_⟩:=run_append_own (P:=Tryz.prog) w base 35 ty 3 i0 (.int .i64 0) 1 8 Tryz.underlying35 hi hz0 hz1 hz2 rfl (by decide) v xs.length (xs.map (Value.int .i64)) hN ⟨B,0,none⟩ 1 1 [.int .i64 y] (by simp) hc h1 (by unfold maxLen;omega) (by omega) hbase;refine ⟨v',w',hr,by simpa [New] using r1,r2,?_⟩;have hsz:i0.size = 1:=hz1;have hby:i0.bytes = 8:=hz2;rcases hN.2 with ⟨rfl,h0⟩ | ⟨g,cap,cur,rfl,hbg,hg,hnc,hcm,hcs,htake⟩
 ·have hr2:=run_append_nil (P:=Tryz.prog) w 35 ty 3 i0 (.int .i64 0) Tryz.underlying35 hi hz0 ⟨B,0,none⟩ 1 1 [.int .i64 y] (by simp [hsz]) hc (by omega) (by omega) (by omega)
  rw [hr] at hr2;cases hr2;exact .inr rfl
 ·by_cases hroom:xs.length+1≤cap
  ·have hfit:xs.length * i0.size+[Value.int .i64 y].length≤cur.size:=by rw [hcs,hsz];simp;omega
   have hr2:=run_append_room (P:=Tryz.prog) w 35 ty 3 i0 Tryz.underlying35 hi g xs.length cap cur hg ⟨B,0,none⟩ 1 1 [.int .i64 y] (by simp [hsz]) hc h1 hroom hfit;rw [hr] at hr2;cases hr2;exact .inl rfl
  ·have hr2:=run_append_grow (P:=Tryz.prog) w 35 ty 3 i0 (.int .i64 0) Tryz.underlying35 hi hz0 ⟨g,0,none⟩ xs.length cap (xs.map (Value.int .i64)) (by simp [hsz]) (World.ownsRow.cells hN (g:=g) rfl) ⟨B,0,none⟩ 1 1 [.int .i64 y] (by simp [hsz]) hc (by omega) (by omega) (growslice_fits (by omega) (by rw [hby];omega))
   rw [hr] at hr2;cases hr2;exact .inr rfl
theorem gZ {F:Fence} {n:Nat} {o:Oper} {a:Act} {K:Act→World→Prop} {Q:Exit→Act→World→Prop} (w:World) (s x:Operand)
 (ho:o.op = .call { callee:=.builtin .append,args:=#[s,x],argTypes:=#[35,35] }) (base:Nat) (v:Value) (xs:List Int) (hs:a.eval s = v) (hN:New base w v xs)
 (B:Nat) (y:Int) (hx:a.eval x = .slice (some ⟨B,0,none⟩) 1 1) (hB:w.cell? ⟨B,0,none⟩ = some (.int .i64 y)) (hlen:xs.length≤1000000) (hbase:base≤w.heap.size)
 (h:∀ v' w',New base w' v' (xs++[y])→w.grownBy w' v.ownBlock→(v'.ownBlock = v.ownBlock∨v'.ownBlock = some w.heap.size)→K (a.put o.dst v') w'):Oper.wpIn F n Tryz.prog o a w K Q:=by
 obtain ⟨v',w',hrun,r1,r2,r3⟩:=JO w o.type base v xs hN B y hB hlen hbase;unfold Oper.wpIn;refine ⟨?_,?_⟩
 ·simp [Oper.about,ho,resolve,Target.leads,Sem.run_pure]
 ·rw [Oper.semAt_plain F _ _ (by rw [ho];intro c hc';cases hc')]
  simp [execOp,ho,resolve,invoke,builtin,hs,hx,hrun,Result.andThen];exact h v' w' r1 r2 r3
namespace Wb
theorem qE (ls:List (List Int)) (i:Nat) (hi:i < ls.length):(ls.take (i+1)).flatten = (ls.take i).flatten++ls[i]?.getD []:=by
 rw [List.take_add_one,List.getElem?_eq_getElem hi,List.flatten_append];simp
theorem H7 (ls:List (List Int)) (i:Nat):(ls.take i).flatten.length≤ls.flatten.length:=by
 conv=>rhs;rw [← List.take_append_drop i ls,List.flatten_append,List.length_append]
 omega
end Wb
def ko:List PanicEntry:=[{ v:=.iface 25 (.int .i64 2),recovered:=false }]
def JP (w w':World) (base:Nat) (e:Ending) (v:Value) (xs l:List Int):Prop :=
 w.grownBy w' v.ownBlock∧((xs.length+l.length≤30∧∃ v',e = .returned v'∧New base w' v' (xs++l)∧∀ k,v'.ownBlock = some k→v.ownBlock = some k∨w.heap.size≤k)∨(30 < xs.length+l.length∧e = .panicked ko))
section
attribute [local go_sem] Oper.semAt_some
structure GInv (w:World) (Bt Bw Bm b off cap N base:Nat) (zs:List Int) (T:Nat→Option Nat) (v:Value) (ys:List Int) (ls:List (List Int)) (r i:Nat) (W:World):Prop where
 out:∃ v1,Boxed W (w.heap.size+1) 35 v1∧New base W v1 (ys++(ls.take i).flatten)∧ys.length+(ls.take i).flatten.length≤30∧∀ k,v1.ownBlock = some k→(v.ownBlock = some k∨w.heap.size≤k)∧k≠w.heap.size∧k≠w.heap.size+1∧k≠Bt∧k≠Bt+1
 JF:dE W Bw Bm (some ⟨b,off,none⟩) cap zs N T
 bW:Boxed W w.heap.size 163 (.pointer (some ⟨Bw,0,none⟩))
 bK:Boxed W (Bt+1) 3 (.int .i64 (r:Int))
 bT:Boxed W Bt 35 (.slice (some ⟨b,off,none⟩) zs.length cap)
 gr:w.grownBy W v.ownBlock
theorem BJ {base:Nat} {X:World} {v:Value} {xs:List Int} {k:Nat} (hN:New base X v xs) (hk:v.ownBlock = some k):∃ o:Obj,X.heap[k]? = some o∧o.isCells = true:=by
 rcases hN.2 with ⟨rfl,_⟩ | ⟨g,cap,cur,rfl,_,hg,_⟩
 ·simp [Value.ownBlock] at hk
 ·simp [Value.ownBlock] at hk
  subst hk;exact ⟨_,hg,rfl⟩
theorem New.slice3 {base:Nat} {X:World} {v:Value} {xs:List Int} (hN:New base X v xs):∃ a n c,v = .slice a n c:=by
 obtain ⟨a,c,e,_⟩:=New.ints hN;exact ⟨a,_,c,e⟩
theorem F7 {base B:Nat} {X Y:World} {v:Value} {xs:List Int} (hN:New base X v xs) (hg:X.grownBy Y v.ownBlock):KeepsFrom B X Y :=
 ⟨hg.size,fun k o _ ho hc=>(hg.block k (Array.getElem?_eq_some_iff.1 ho).1 (fun e=>by
  obtain ⟨o',ho',hf'⟩:=BJ hN e.symm;rw [ho] at ho';cases ho';rw [hc] at hf';cases hf')).trans ho⟩
theorem New.own {base:Nat} {X Y:World} {v:Value} {xs:List Int} {row:Option Nat} (hN:New base X v xs) (hg:X.grownBy Y row) (hr:∀ r,row = some r→∃ o:Obj,X.heap[r]? = some o∧o.isCells = false):New base Y v xs:=by
 refine World.ownsRow.kept hN hg ?_;cases hv:v.ownBlock with
 | none=>exact .inl rfl
 | some k =>
  refine .inr fun e=>?_
  obtain ⟨o,ho,hf⟩:=hr k e.symm;obtain ⟨o',ho',hf'⟩:=BJ hN hv;rw [ho] at ho';cases ho';rw [hf] at hf';cases hf'
theorem ic {w X Y:World} {row row':Option Nat} (h:w.grownBy X row) (h':X.grownBy Y row') (hr:∀ k,row' = some k→row = some k∨w.heap.size≤k):w.grownBy Y row :=
 ⟨h'.os.trans h.os,h'.tape.trans h.tape,h'.output.trans h.output,Nat.le_trans h.size h'.size,fun k hk hn=>(h'.block k (by have:=h.size;omega) (fun e=>by
  rcases hr k e.symm with h1 | h1
  ·exact hn h1.symm
  ·omega)).trans (h.block k hk hn)⟩
theorem GInv.own {w:World} {Bt Bw Bm b off cap N base:Nat} {zs:List Int} {T:Nat→Option Nat} {v:Value} {ys:List Int} {ls:List (List Int)} {r B:Nat} (h1:Bw < w.heap.size) (h2:Bm < w.heap.size) (h3:b < w.heap.size) (hB:w.heap.size≤B):OwnFrom B (GInv w Bt Bw Bm b off cap N base zs T v ys ls r):=by
 rintro i X Y row ⟨⟨v1,bO,hN,hl,ho⟩,qC,bW,bK,bT,hG⟩ hg hrow;have hbx:∀ {C:Nat} {t:TypeId} {v:Value},Boxed X C t v→Boxed Y C t v:=fun {C t v} hb=>(boxed_own C t (fun _:Unit=>v)).from B () X Y row hb hg hrow
 have hkk:∀ k,k < w.heap.size→Y.heap[k]? = X.heap[k]?:=fun k hk=>hg.block k (by have:=hG.size;omega) (fun e=>by have:=(hrow k e.symm).1;omega)
 exact ⟨⟨v1,hbx bO,hN.own hg (fun q e=>(hrow q e).2),hl,ho⟩,qC.of (hkk Bw h1) (hkk Bm h2) (hkk b h3) (by have:=hG.size;have:=hg.size;omega),hbx bW,hbx bK,hbx bT,ic hG hg fun k e=>.inr (by have:=(hrow k e).1;omega)⟩
theorem LJ (n:Nat) (base Bw p:Nat) (v:Value) (xs l:List Int) (w:World) (hN:New base w v xs) (jD:xs.length = 30) (hl:1≤l.length) :
 CallsIn Fx n Tryz.prog 141 #[.pointer (some ⟨Bw,0,none⟩),v,.int .i64 (p:Int)] w fun e w'=>JP w w' base e v xs l:=by
 obtain ⟨hro,hfn,hdd⟩:=jf Xp;have hf:=hfn _ _ Tryz.func141;clear hfn;have hA:Hid (∀ w',w.grownBy w' v.ownBlock→JP w w' base (.panicked ko) v xs l):=fun w' hg=>⟨hg,.inr ⟨by omega,rfl⟩⟩
 obtain ⟨a,c,rfl,_⟩:=New.ints hN;rw [jD] at hA ⊢;clear hN jD hl;refine callsIn_of_wp_marks Tryz.func141 rfl hf ?_ hro;simp only [Tryz.ntmps141,List.size_toArray,List.length_cons,List.length_nil,Nat.reduceAdd,Nat.reduceSub,Array.replicate_succ,Array.replicate_zero,List.push_toArray,List.append_toArray,List.nil_append,List.cons_append];gi_wp2
 exact hA.out _ (ic (World.grownBy_alloc w _ _) (World.grownBy_alloc _ _ none) (fun k e=>by cases e))
end
section
attribute [local go_sem] Oper.semAt_some
theorem Fy (zs:List Int) (G:Wb.Good zs) (T:Nat→Option Nat) (h:Nat→Nat) (S:Wb.St zs T h) (Bw Bm b off cap N base p:Nat) (ls:List (List Int)) (v:Value) (xs:List Int) (w:World)
 (hW:dE w Bw Bm (some ⟨b,off,none⟩) cap zs N T) (hp:p < zs.length) (hN:New base w v xs) (hv:∀ k,v.ownBlock = some k→k≠Bw∧k≠Bm∧k≠b) (hbase:base≤w.heap.size) (h29:xs.length≤29) (hls:ls.length = Tm.room (Wb.sg zs (Wb.hd zs h p)))
 (ih:∀ i,i < Tm.room (Wb.sg zs (Wb.hd zs h p))→∀ (v1:Value) (ys:List Int) (W:World),dE W Bw Bm (some ⟨b,off,none⟩) cap zs N T→New base W v1 ys→(∀ k,v1.ownBlock = some k→k≠Bw∧k≠Bm∧k≠b)→base≤W.heap.size→ys.length≤30 →
   CallsIn Fx 3 Tryz.prog 141 #[.pointer (some ⟨Bw,0,none⟩),v1,.int .i64 (Tm.pos zs (Wb.hd zs h p) i:Int)] W fun e W'=>JP W W' base e v1 ys (ls[i]?.getD [])) :
 CallsIn Fx 3 Tryz.prog 141 #[.pointer (some ⟨Bw,0,none⟩),v,.int .i64 (p:Int)] w fun e w'=>JP w w' base e v xs (Wb.sg zs (Wb.hd zs h p) :: ls.flatten):=by
 obtain ⟨F,hF⟩:∃ F,F = Fx:=⟨_,rfl⟩;have qz:Hid (Pl F):=by rw [hF];exact Xp
 have hall:Hid (∀ fn,F.fn fn→∃ f,Tryz.prog.funcs[fn]? = some f):=by rw [hF];exact Ye
 rw [← hF];rw [← hF] at ih;clear hF;obtain ⟨hro,hfn,hdd⟩:=jf qz.out;have hf1:=hfn _ _ Tryz.func141;have hf2:=hfn _ _ Tryz.func137;have hf3:=hfn _ _ Tryz.func101;have PU:=hfn _ _ Tryz.func123;clear hfn;have hl5:=G.len;have Vp:(zs.length:Int)≤5000:=by omega
 obtain ⟨wl,ml⟩:=hW.lt;obtain ⟨hr1,_,_⟩:=Wb.nQ G S hp;have hr1':(Wb.hd zs h p:Int) < (zs.length:Int):=by omega
 have hbl:b < w.heap.size:=by
  obtain ⟨b',off',e,hb,_⟩:=hW.ints.at (by omega);cases e;exact hb
 have hxl:((xs.length:Int) == 30) = false:=by simp;omega
 have hown:=fun k (e:v.ownBlock = some k)=>(World.ownsRow.lt hN k e).2
 have hB0:Below w.heap.size w ((w.alloc (.cells #[.pointer (some ⟨Bw,0,none⟩)] 163)).alloc (.cells #[v] 35)):=((Below.refl _ w).alloc (Nat.le_refl _) _).alloc (by simp) _;have bW:=(Boxed.new w 163 (.pointer (some ⟨Bw,0,none⟩))).alloc (.cells #[v] 35);have bO:=Boxed.new (w.alloc (.cells #[.pointer (some ⟨Bw,0,none⟩)] 163)) 35 v;rw [World.size_alloc] at bO;have hs3:((w.alloc (.cells #[.pointer (some ⟨Bw,0,none⟩)] 163)).alloc (.cells #[v] 35)).heap.size = w.heap.size+1+1:=by simp
 have hH:=hid (yQ F qz.out (3 - 1) zs T h G S Bw Bm _ cap N p hp _ (hW.below hB0));have hW0:=hW.below hB0;have hN0:=hN.below hB0;obtain ⟨a0,c0,rfl,_⟩:=New.ints hN;obtain ⟨W3,hW3⟩:∃ W3,(w.alloc (.cells #[.pointer (some ⟨Bw,0,none⟩)] 163)).alloc (.cells #[.slice a0 xs.length c0] 35) = W3:=⟨_,rfl⟩;have HW3:=hid hW3;rw [hW3] at hB0 bW bO hH hW0 hs3 hN0;have hcW:=bW.cell;have hcO:=bO.cell;have hfO:=bO.frozen;have hc0:=hW0.cell0;have hcs:=dE.RX hW0 hr1;have hkl:=hid (fun i hi=>Wb.jL G hr1 (i:=i) hi);have HN:=hid hN;have HN0:=hid hN0;have HW:=hid hW;have HW0:=hid hW0;have Hih:=hid ih;have Hls:=hid hls;have Hv:=hid hv;have Fz:=hid hown;clear hW3 G S hW hN ih hN0 hW0 hls hv hown;generalize Wb.hd zs h p = r at *;refine callsIn_of_wp_marks Tryz.func141 rfl hf1 ?_ hro;simp only [Tryz.ntmps141,List.size_toArray,List.length_cons,List.length_nil,Nat.reduceAdd,Nat.reduceSub,Array.replicate_succ,Array.replicate_zero,List.push_toArray,List.append_toArray,List.nil_append,List.cons_append];gi_wp2_with (first
  | ((try refine ⟨hdd _,?_⟩);gi_at_call 137;rw [HW3.out];refine hH.out.mono ?_;clear hH;rintro e W3 ⟨rfl,rfl⟩))
 have mixed:Tryz.prog.follows .mixedOrders = true:=by kernel_rfl
 have Vs:=(show Boxed (W3.alloc (.cells #[.int .i64 (Wb.sg zs r)] 3)).drew (w.heap.size+1) 35 (.slice a0 xs.length c0) from bO.alloc (.cells #[.int .i64 (Wb.sg zs r)] 3));have hs4:(W3.alloc (.cells #[.int .i64 (Wb.sg zs r)] 3)).drew.heap.size = w.heap.size+1+1+1:=by show (W3.alloc (.cells #[.int .i64 (Wb.sg zs r)] 3)).heap.size = _;simp [hs3]
 have P5:=hid (show New base (W3.alloc (.cells #[.int .i64 (Wb.sg zs r)] 3)).drew (.slice a0 xs.length c0) xs from New.alloc HN0.out (.cells #[.int .i64 (Wb.sg zs r)] 3));have hcx:=hid (show (W3.alloc (.cells #[.int .i64 (Wb.sg zs r)] 3)).drew.cell? ⟨w.heap.size+1+1,0,none⟩ = some (.int .i64 (Wb.sg zs r)) from by rw [← hs3];exact (Boxed.new W3 3 (.int .i64 (Wb.sg zs r))).cell);have hgr:=hid (show ∀ (v1:Value) (W4:World),(W3.alloc (.cells #[.int .i64 (Wb.sg zs r)] 3)).drew.grownBy W4 (Value.slice a0 xs.length c0).ownBlock→(v1.ownBlock = (Value.slice a0 xs.length c0).ownBlock∨v1.ownBlock = some (W3.alloc (.cells #[.int .i64 (Wb.sg zs r)] 3)).drew.heap.size) →
  W3.grownBy W4 (Value.slice a0 xs.length c0).ownBlock∧∀ k,v1.ownBlock = some k→(Value.slice a0 xs.length c0).ownBlock = some k∨w.heap.size+1+1≤k from fun v1 W4 hg1 ho1=>by
  refine ⟨⟨hg1.os,hg1.tape,hg1.output,by have:=hg1.size;rw [hs4] at this;omega,fun k hk hn=>(hg1.block k (by rw [hs4];omega) hn).trans (Below.heap_alloc W3 _ k hk)⟩,fun k e=>?_⟩;rcases ho1 with ho | ho
  ·exact .inl (ho ▸ e)
  ·rw [ho] at e
   cases e;exact .inr (by rw [hs4];omega))
 refine wpIn_mono (Q:=fun e a W=>e = .normal∧∃ v1 W4 x21 x23,a = { tmps:=#[.pointer (some ⟨Bw,0,none⟩),.slice a0 xs.length c0,.int .i64 (r:Int),.pointer (some ⟨w.heap.size,0,none⟩),.pointer (some ⟨w.heap.size+1,0,none⟩),undef,.slice none 0 0,undef,.slice a0 xs.length c0,.int .i64 (xs.length:Int),.bool false,undef,.pointer (some ⟨Bw,0,none⟩),.int .i64 (p:Int),.int .i64 (r:Int),
  .slice a0 xs.length c0,.pointer (some ⟨Bw,0,none⟩),.pointer (some ⟨Bw,0,none⟩),.pointer (some ⟨Bw,0,none⟩),.slice (some ⟨b,off,none⟩) zs.length cap,.int .i64 (r:Int),x21,.int .i64 (Wb.sg zs r),x23,v1,undef,undef,undef,undef,undef,undef,undef,undef,undef,undef,undef,undef,undef],defers:=[] }∧W = W4.setCell ⟨w.heap.size+1,0,none⟩ v1∧New base W4 v1 (xs++[Wb.sg zs r]) ∧
  W3.grownBy W4 (Value.slice a0 xs.length c0).ownBlock∧(∀ k,v1.ownBlock = some k→(Value.slice a0 xs.length c0).ownBlock = some k∨w.heap.size+1+1≤k)∧Boxed W4 (w.heap.size+1) 35 (.slice a0 xs.length c0)) ?region ?rest
 case region =>
  refine wpIn_region_any mixed ?_;change wpAnyIn _ _ _ _ _ _ _ _ _ (World.drew _);show wpAnyIn F _ _ _ _ _ 11 (Array.replicate 11 false) _ _;refine wpAnyIn_take (i:=5) (v:=.int .i64 (r:Int)) hro rfl (by kernel_rfl) (by kernel_rfl) (by kernel_rfl) (fun _ _ _ h=>absurd h.1 (by simp)) ⟨Or.inl ⟨by rfl,fun w=>by go_simp⟩,fun _=>rfl⟩ ?_;refine wpAnyIn_ready (rs:=[0,1]) (by kernel_rfl) (by simp) ?_;refine AllReadyIn.cons rfl (fun K hK=>?_) (AllReadyIn.cons rfl (fun K hK=>?_) AllReadyIn.nil)
  ·go_simp
   refine hK _ _ ?_;clear hK K;refine wpAnyIn_ready (rs:=[1]) (by kernel_rfl) (by simp) ?_;refine AllReadyIn.cons rfl (fun K hK=>?_) AllReadyIn.nil;go_simp;refine hK _ _ ?_;clear hK K;refine wpAnyIn_ready (rs:=[2]) (by kernel_rfl) (by simp) ?_;refine AllReadyIn.cons rfl (fun K hK=>?_) AllReadyIn.nil;go_simp;refine hK _ _ ?_;clear hK K;refine wpAnyIn_ready (rs:=[3]) (by kernel_rfl) (by simp) ?_;refine AllReadyIn.cons rfl (fun K hK=>?_) AllReadyIn.nil;go_simp;refine hK _ _ ?_;clear hK K;refine wpAnyIn_ready (rs:=[4]) (by kernel_rfl) (by simp) ?_;refine AllReadyIn.cons rfl (fun K hK=>?_) AllReadyIn.nil;go_simp;refine hK _ _ ?_;clear hK K;refine wpAnyIn_ready (rs:=[6]) (by kernel_rfl) (by simp) ?_;refine AllReadyIn.cons rfl (fun K hK=>?_) AllReadyIn.nil;go_simp;refine hK _ _ ?_;clear hK K;refine wpAnyIn_ready (rs:=[7]) (by kernel_rfl) (by simp) ?_;refine AllReadyIn.cons rfl (fun K hK=>?_) AllReadyIn.nil;go_simp;refine hK _ _ ?_;clear hK K;refine wpAnyIn_ready (rs:=[8]) (by kernel_rfl) (by simp) ?_;refine AllReadyIn.cons rfl (fun K hK=>?_) AllReadyIn.nil;go_simp;refine hK _ _ ?_;clear hK K;refine wpAnyIn_ready (rs:=[9]) (by kernel_rfl) (by simp) ?_;refine AllReadyIn.cons rfl (fun K hK=>?_) AllReadyIn.nil;rw [if_pos (by rfl)];refine gZ _ _ _ rfl base _ xs rfl P5.out (w.heap.size+1+1) (Wb.sg zs r) rfl hcx.out (by omega) (by rw [hs4];omega) ?_;intro v1 W4 hN1 hg1 ho1;refine hK _ _ ?_;clear hK K;have qZ:Boxed W4 (w.heap.size+1) 35 (.slice a0 xs.length c0):=(hg1.block _ (by rw [hs4];omega) (fun e=>by have:=Fz.out _ e.symm;omega)).trans Vs;have Yf:=qZ.cell;have Yg:=qZ.frozen;obtain ⟨a1,n1,c1,rfl⟩:=hN1.slice3;refine wpAnyIn_ready (rs:=[10]) (by kernel_rfl) (by simp) ?_;refine AllReadyIn.cons rfl (fun K hK=>?_) AllReadyIn.nil;go_simp;refine hK _ _ ?_;clear hK K;refine wpAnyIn_done (by kernel_rfl) ?_ _;exact ⟨rfl,.slice a1 n1 c1,W4,_,_,rfl,rfl,hN1,(hgr.out _ W4 hg1 ho1).1,(hgr.out _ W4 hg1 ho1).2,qZ⟩
  ·go_simp
   refine hK _ _ ?_;clear hK K;refine wpAnyIn_ready (rs:=[0,2]) (by kernel_rfl) (by simp) ?_;refine AllReadyIn.cons rfl (fun K hK=>?_) (AllReadyIn.cons rfl (fun K hK=>?_) AllReadyIn.nil)
   ·go_simp
    refine hK _ _ ?_;clear hK K;refine wpAnyIn_ready (rs:=[2]) (by kernel_rfl) (by simp) ?_;refine AllReadyIn.cons rfl (fun K hK=>?_) AllReadyIn.nil;go_simp;refine hK _ _ ?_;clear hK K;refine wpAnyIn_ready (rs:=[3]) (by kernel_rfl) (by simp) ?_;refine AllReadyIn.cons rfl (fun K hK=>?_) AllReadyIn.nil;go_simp;refine hK _ _ ?_;clear hK K;refine wpAnyIn_ready (rs:=[4]) (by kernel_rfl) (by simp) ?_;refine AllReadyIn.cons rfl (fun K hK=>?_) AllReadyIn.nil;go_simp;refine hK _ _ ?_;clear hK K;refine wpAnyIn_ready (rs:=[6]) (by kernel_rfl) (by simp) ?_;refine AllReadyIn.cons rfl (fun K hK=>?_) AllReadyIn.nil;go_simp;refine hK _ _ ?_;clear hK K;refine wpAnyIn_ready (rs:=[7]) (by kernel_rfl) (by simp) ?_;refine AllReadyIn.cons rfl (fun K hK=>?_) AllReadyIn.nil;go_simp;refine hK _ _ ?_;clear hK K;refine wpAnyIn_ready (rs:=[8]) (by kernel_rfl) (by simp) ?_;refine AllReadyIn.cons rfl (fun K hK=>?_) AllReadyIn.nil;go_simp;refine hK _ _ ?_;clear hK K;refine wpAnyIn_ready (rs:=[9]) (by kernel_rfl) (by simp) ?_;refine AllReadyIn.cons rfl (fun K hK=>?_) AllReadyIn.nil;rw [if_pos (by rfl)];refine gZ _ _ _ rfl base _ xs rfl P5.out (w.heap.size+1+1) (Wb.sg zs r) rfl hcx.out (by omega) (by rw [hs4];omega) ?_;intro v1 W4 hN1 hg1 ho1;refine hK _ _ ?_;clear hK K;have qZ:Boxed W4 (w.heap.size+1) 35 (.slice a0 xs.length c0):=(hg1.block _ (by rw [hs4];omega) (fun e=>by have:=Fz.out _ e.symm;omega)).trans Vs;have Yf:=qZ.cell;have Yg:=qZ.frozen;obtain ⟨a1,n1,c1,rfl⟩:=hN1.slice3;refine wpAnyIn_ready (rs:=[10]) (by kernel_rfl) (by simp) ?_;refine AllReadyIn.cons rfl (fun K hK=>?_) AllReadyIn.nil;go_simp;refine hK _ _ ?_;clear hK K;refine wpAnyIn_done (by kernel_rfl) ?_ _;exact ⟨rfl,.slice a1 n1 c1,W4,_,_,rfl,rfl,hN1,(hgr.out _ W4 hg1 ho1).1,(hgr.out _ W4 hg1 ho1).2,qZ⟩
   ·go_simp
    refine hK _ _ ?_;clear hK K;refine wpAnyIn_ready (rs:=[0,3]) (by kernel_rfl) (by simp) ?_;refine AllReadyIn.cons rfl (fun K hK=>?_) (AllReadyIn.cons rfl (fun K hK=>?_) AllReadyIn.nil)
    ·go_simp
     refine hK _ _ ?_;clear hK K;refine wpAnyIn_ready (rs:=[3]) (by kernel_rfl) (by simp) ?_;refine AllReadyIn.cons rfl (fun K hK=>?_) AllReadyIn.nil;go_simp;refine hK _ _ ?_;clear hK K;refine wpAnyIn_ready (rs:=[4]) (by kernel_rfl) (by simp) ?_;refine AllReadyIn.cons rfl (fun K hK=>?_) AllReadyIn.nil;go_simp;refine hK _ _ ?_;clear hK K;refine wpAnyIn_ready (rs:=[6]) (by kernel_rfl) (by simp) ?_;refine AllReadyIn.cons rfl (fun K hK=>?_) AllReadyIn.nil;go_simp;refine hK _ _ ?_;clear hK K;refine wpAnyIn_ready (rs:=[7]) (by kernel_rfl) (by simp) ?_;refine AllReadyIn.cons rfl (fun K hK=>?_) AllReadyIn.nil;go_simp;refine hK _ _ ?_;clear hK K;refine wpAnyIn_ready (rs:=[8]) (by kernel_rfl) (by simp) ?_;refine AllReadyIn.cons rfl (fun K hK=>?_) AllReadyIn.nil;go_simp;refine hK _ _ ?_;clear hK K;refine wpAnyIn_ready (rs:=[9]) (by kernel_rfl) (by simp) ?_;refine AllReadyIn.cons rfl (fun K hK=>?_) AllReadyIn.nil;rw [if_pos (by rfl)];refine gZ _ _ _ rfl base _ xs rfl P5.out (w.heap.size+1+1) (Wb.sg zs r) rfl hcx.out (by omega) (by rw [hs4];omega) ?_;intro v1 W4 hN1 hg1 ho1;refine hK _ _ ?_;clear hK K;have qZ:Boxed W4 (w.heap.size+1) 35 (.slice a0 xs.length c0):=(hg1.block _ (by rw [hs4];omega) (fun e=>by have:=Fz.out _ e.symm;omega)).trans Vs;have Yf:=qZ.cell;have Yg:=qZ.frozen;obtain ⟨a1,n1,c1,rfl⟩:=hN1.slice3;refine wpAnyIn_ready (rs:=[10]) (by kernel_rfl) (by simp) ?_;refine AllReadyIn.cons rfl (fun K hK=>?_) AllReadyIn.nil;go_simp;refine hK _ _ ?_;clear hK K;refine wpAnyIn_done (by kernel_rfl) ?_ _;exact ⟨rfl,.slice a1 n1 c1,W4,_,_,rfl,rfl,hN1,(hgr.out _ W4 hg1 ho1).1,(hgr.out _ W4 hg1 ho1).2,qZ⟩
    ·go_simp
     refine hK _ _ ?_;clear hK K;refine wpAnyIn_ready (rs:=[0,4]) (by kernel_rfl) (by simp) ?_;refine AllReadyIn.cons rfl (fun K hK=>?_) (AllReadyIn.cons rfl (fun K hK=>?_) AllReadyIn.nil)
     ·go_simp
      refine hK _ _ ?_;clear hK K;refine wpAnyIn_ready (rs:=[4]) (by kernel_rfl) (by simp) ?_;refine AllReadyIn.cons rfl (fun K hK=>?_) AllReadyIn.nil;go_simp;refine hK _ _ ?_;clear hK K;refine wpAnyIn_ready (rs:=[6]) (by kernel_rfl) (by simp) ?_;refine AllReadyIn.cons rfl (fun K hK=>?_) AllReadyIn.nil;go_simp;refine hK _ _ ?_;clear hK K;refine wpAnyIn_ready (rs:=[7]) (by kernel_rfl) (by simp) ?_;refine AllReadyIn.cons rfl (fun K hK=>?_) AllReadyIn.nil;go_simp;refine hK _ _ ?_;clear hK K;refine wpAnyIn_ready (rs:=[8]) (by kernel_rfl) (by simp) ?_;refine AllReadyIn.cons rfl (fun K hK=>?_) AllReadyIn.nil;go_simp;refine hK _ _ ?_;clear hK K;refine wpAnyIn_ready (rs:=[9]) (by kernel_rfl) (by simp) ?_;refine AllReadyIn.cons rfl (fun K hK=>?_) AllReadyIn.nil;rw [if_pos (by rfl)];refine gZ _ _ _ rfl base _ xs rfl P5.out (w.heap.size+1+1) (Wb.sg zs r) rfl hcx.out (by omega) (by rw [hs4];omega) ?_;intro v1 W4 hN1 hg1 ho1;refine hK _ _ ?_;clear hK K;have qZ:Boxed W4 (w.heap.size+1) 35 (.slice a0 xs.length c0):=(hg1.block _ (by rw [hs4];omega) (fun e=>by have:=Fz.out _ e.symm;omega)).trans Vs;have Yf:=qZ.cell;have Yg:=qZ.frozen;obtain ⟨a1,n1,c1,rfl⟩:=hN1.slice3;refine wpAnyIn_ready (rs:=[10]) (by kernel_rfl) (by simp) ?_;refine AllReadyIn.cons rfl (fun K hK=>?_) AllReadyIn.nil;go_simp;refine hK _ _ ?_;clear hK K;refine wpAnyIn_done (by kernel_rfl) ?_ _;exact ⟨rfl,.slice a1 n1 c1,W4,_,_,rfl,rfl,hN1,(hgr.out _ W4 hg1 ho1).1,(hgr.out _ W4 hg1 ho1).2,qZ⟩
     ·go_simp
      refine hK _ _ ?_;clear hK K;refine wpAnyIn_ready (rs:=[0,6]) (by kernel_rfl) (by simp) ?_;refine AllReadyIn.cons rfl (fun K hK=>?_) (AllReadyIn.cons rfl (fun K hK=>?_) AllReadyIn.nil)
      ·go_simp
       refine hK _ _ ?_;clear hK K;refine wpAnyIn_ready (rs:=[6]) (by kernel_rfl) (by simp) ?_;refine AllReadyIn.cons rfl (fun K hK=>?_) AllReadyIn.nil;go_simp;refine hK _ _ ?_;clear hK K;refine wpAnyIn_ready (rs:=[7]) (by kernel_rfl) (by simp) ?_;refine AllReadyIn.cons rfl (fun K hK=>?_) AllReadyIn.nil;go_simp;refine hK _ _ ?_;clear hK K;refine wpAnyIn_ready (rs:=[8]) (by kernel_rfl) (by simp) ?_;refine AllReadyIn.cons rfl (fun K hK=>?_) AllReadyIn.nil;go_simp;refine hK _ _ ?_;clear hK K;refine wpAnyIn_ready (rs:=[9]) (by kernel_rfl) (by simp) ?_;refine AllReadyIn.cons rfl (fun K hK=>?_) AllReadyIn.nil;rw [if_pos (by rfl)];refine gZ _ _ _ rfl base _ xs rfl P5.out (w.heap.size+1+1) (Wb.sg zs r) rfl hcx.out (by omega) (by rw [hs4];omega) ?_;intro v1 W4 hN1 hg1 ho1;refine hK _ _ ?_;clear hK K;have qZ:Boxed W4 (w.heap.size+1) 35 (.slice a0 xs.length c0):=(hg1.block _ (by rw [hs4];omega) (fun e=>by have:=Fz.out _ e.symm;omega)).trans Vs;have Yf:=qZ.cell;have Yg:=qZ.frozen;obtain ⟨a1,n1,c1,rfl⟩:=hN1.slice3;refine wpAnyIn_ready (rs:=[10]) (by kernel_rfl) (by simp) ?_;refine AllReadyIn.cons rfl (fun K hK=>?_) AllReadyIn.nil;go_simp;refine hK _ _ ?_;clear hK K;refine wpAnyIn_done (by kernel_rfl) ?_ _;exact ⟨rfl,.slice a1 n1 c1,W4,_,_,rfl,rfl,hN1,(hgr.out _ W4 hg1 ho1).1,(hgr.out _ W4 hg1 ho1).2,qZ⟩
      ·go_simp
       refine hK _ _ ?_;clear hK K;refine wpAnyIn_ready (rs:=[0,7]) (by kernel_rfl) (by simp) ?_;refine AllReadyIn.cons rfl (fun K hK=>?_) (AllReadyIn.cons rfl (fun K hK=>?_) AllReadyIn.nil)
       ·go_simp
        refine hK _ _ ?_;clear hK K;refine wpAnyIn_ready (rs:=[7]) (by kernel_rfl) (by simp) ?_;refine AllReadyIn.cons rfl (fun K hK=>?_) AllReadyIn.nil;go_simp;refine hK _ _ ?_;clear hK K;refine wpAnyIn_ready (rs:=[8]) (by kernel_rfl) (by simp) ?_;refine AllReadyIn.cons rfl (fun K hK=>?_) AllReadyIn.nil;go_simp;refine hK _ _ ?_;clear hK K;refine wpAnyIn_ready (rs:=[9]) (by kernel_rfl) (by simp) ?_;refine AllReadyIn.cons rfl (fun K hK=>?_) AllReadyIn.nil;rw [if_pos (by rfl)];refine gZ _ _ _ rfl base _ xs rfl P5.out (w.heap.size+1+1) (Wb.sg zs r) rfl hcx.out (by omega) (by rw [hs4];omega) ?_;intro v1 W4 hN1 hg1 ho1;refine hK _ _ ?_;clear hK K;have qZ:Boxed W4 (w.heap.size+1) 35 (.slice a0 xs.length c0):=(hg1.block _ (by rw [hs4];omega) (fun e=>by have:=Fz.out _ e.symm;omega)).trans Vs;have Yf:=qZ.cell;have Yg:=qZ.frozen;obtain ⟨a1,n1,c1,rfl⟩:=hN1.slice3;refine wpAnyIn_ready (rs:=[10]) (by kernel_rfl) (by simp) ?_;refine AllReadyIn.cons rfl (fun K hK=>?_) AllReadyIn.nil;go_simp;refine hK _ _ ?_;clear hK K;refine wpAnyIn_done (by kernel_rfl) ?_ _;exact ⟨rfl,.slice a1 n1 c1,W4,_,_,rfl,rfl,hN1,(hgr.out _ W4 hg1 ho1).1,(hgr.out _ W4 hg1 ho1).2,qZ⟩
       ·go_simp
        refine hK _ _ ?_;clear hK K;refine wpAnyIn_ready (rs:=[0,8]) (by kernel_rfl) (by simp) ?_;refine AllReadyIn.cons rfl (fun K hK=>?_) (AllReadyIn.cons rfl (fun K hK=>?_) AllReadyIn.nil)
        ·go_simp
         refine hK _ _ ?_;clear hK K;refine wpAnyIn_ready (rs:=[8]) (by kernel_rfl) (by simp) ?_;refine AllReadyIn.cons rfl (fun K hK=>?_) AllReadyIn.nil;go_simp;refine hK _ _ ?_;clear hK K;refine wpAnyIn_ready (rs:=[9]) (by kernel_rfl) (by simp) ?_;refine AllReadyIn.cons rfl (fun K hK=>?_) AllReadyIn.nil;rw [if_pos (by rfl)];refine gZ _ _ _ rfl base _ xs rfl P5.out (w.heap.size+1+1) (Wb.sg zs r) rfl hcx.out (by omega) (by rw [hs4];omega) ?_;intro v1 W4 hN1 hg1 ho1;refine hK _ _ ?_;clear hK K;have qZ:Boxed W4 (w.heap.size+1) 35 (.slice a0 xs.length c0):=(hg1.block _ (by rw [hs4];omega) (fun e=>by have:=Fz.out _ e.symm;omega)).trans Vs;have Yf:=qZ.cell;have Yg:=qZ.frozen;obtain ⟨a1,n1,c1,rfl⟩:=hN1.slice3;refine wpAnyIn_ready (rs:=[10]) (by kernel_rfl) (by simp) ?_;refine AllReadyIn.cons rfl (fun K hK=>?_) AllReadyIn.nil;go_simp;refine hK _ _ ?_;clear hK K;refine wpAnyIn_done (by kernel_rfl) ?_ _;exact ⟨rfl,.slice a1 n1 c1,W4,_,_,rfl,rfl,hN1,(hgr.out _ W4 hg1 ho1).1,(hgr.out _ W4 hg1 ho1).2,qZ⟩
        ·go_simp
         refine hK _ _ ?_;clear hK K;refine wpAnyIn_ready (rs:=[0]) (by kernel_rfl) (by simp) ?_;refine AllReadyIn.cons rfl (fun K hK=>?_) AllReadyIn.nil;go_simp;refine hK _ _ ?_;clear hK K;refine wpAnyIn_ready (rs:=[9]) (by kernel_rfl) (by simp) ?_;refine AllReadyIn.cons rfl (fun K hK=>?_) AllReadyIn.nil;rw [if_pos (by rfl)];refine gZ _ _ _ rfl base _ xs rfl P5.out (w.heap.size+1+1) (Wb.sg zs r) rfl hcx.out (by omega) (by rw [hs4];omega) ?_;intro v1 W4 hN1 hg1 ho1;refine hK _ _ ?_;clear hK K;have qZ:Boxed W4 (w.heap.size+1) 35 (.slice a0 xs.length c0):=(hg1.block _ (by rw [hs4];omega) (fun e=>by have:=Fz.out _ e.symm;omega)).trans Vs;have Yf:=qZ.cell;have Yg:=qZ.frozen;obtain ⟨a1,n1,c1,rfl⟩:=hN1.slice3;refine wpAnyIn_ready (rs:=[10]) (by kernel_rfl) (by simp) ?_;refine AllReadyIn.cons rfl (fun K hK=>?_) AllReadyIn.nil;go_simp;refine hK _ _ ?_;clear hK K;refine wpAnyIn_done (by kernel_rfl) ?_ _;exact ⟨rfl,.slice a1 n1 c1,W4,_,_,rfl,rfl,hN1,(hgr.out _ W4 hg1 ho1).1,(hgr.out _ W4 hg1 ho1).2,qZ⟩
 case rest =>
  rintro e a W ⟨rfl,v1,W4,x21,x23,rfl,rfl,hN1,hg1,ho1,qZ⟩;obtain ⟨W5,mG⟩:∃ W5,W4.setCell ⟨w.heap.size+1,0,none⟩ v1 = W5:=⟨_,rfl⟩;have bO5:Boxed W5 (w.heap.size+1) 35 v1:=mG ▸ qZ.set v1;have g5:W4.grownBy W5 (some (w.heap.size+1)):=mG ▸ dz W4 _ 0 _;have hz4:=hg1.size;have hz5:=g5.size;have hown1:∀ k,v1.ownBlock = some k→((Value.slice a0 xs.length c0).ownBlock = some k∨w.heap.size≤k)∧k≠w.heap.size∧k≠w.heap.size+1∧k < W4.heap.size:=fun k e=>by
   have h1:=(World.ownsRow.lt hN1 k e).2;rcases ho1 k e with h2 | h2
   ·have h3:=Fz.out k h2
    exact ⟨.inl h2,by omega,by omega,h1⟩
   ·exact ⟨.inr (by omega),by omega,by omega,h1⟩
  have mV:New base W5 v1 (xs++[Wb.sg zs r]):=World.ownsRow.kept hN1 g5 (by
   cases hv:v1.ownBlock with
   | none=>exact .inl rfl
   | some k=>exact .inr (by have:=hown1 k hv;simp;omega))
  have hkk:∀ k,k < w.heap.size→some k≠(Value.slice a0 xs.length c0).ownBlock→W5.heap[k]? = W3.heap[k]?:=fun k hk hn=>(g5.block k (by omega) (by simp;omega)).trans (hg1.block k (by omega) hn)
  have bW5:Boxed W5 w.heap.size 163 (.pointer (some ⟨Bw,0,none⟩)):=(g5.block _ (by omega) (by simp)).trans ((hg1.block _ (by omega) (fun e=>by have:=Fz.out _ e.symm;omega)).trans bW);have abJ:dE W5 Bw Bm (some ⟨b,off,none⟩) cap zs N T:=HW0.out.of (hkk Bw wl (fun e=>(Hv.out _ e.symm).1 rfl)) (hkk Bm ml (fun e=>(Hv.out _ e.symm).2.1 rfl)) (hkk b hbl (fun e=>(Hv.out _ e.symm).2.2 rfl)) (by omega);have gr5:w.grownBy W5 (Value.slice a0 xs.length c0).ownBlock:=⟨(g5.os.trans hg1.os).trans hB0.os,(g5.tape.trans hg1.tape).trans hB0.tape,(g5.output.trans hg1.output).trans hB0.output,by omega,fun k hk hn=>(hkk k hk hn).trans (hB0.block k hk)⟩;have d1:=bW5.cell;have d2:=abJ.cell0;rw [mG];clear mG g5 hg1 hkk qZ hN1 ho1 bO bW hB0 hcW hcO hfO hc0 hcs HW3 HN0 HW0 Vs hs4 P5 hcx hgr;gi_wp2_with (first
   | ((try refine ⟨hdd _,?_⟩);gi_at_call 101;refine (j6 F qz.out _ _ _ _ _ _).mono ?_;rintro e w' ⟨rfl,rfl⟩))
  have hs6:((W5.alloc (.cells #[.slice (some ⟨b,off,none⟩) zs.length cap] 35)).alloc (.cells #[.int .i64 (r:Int)] 3)).heap.size = W5.heap.size+1+1:=by simp
  have bT6:=(Boxed.new W5 35 (.slice (some ⟨b,off,none⟩) zs.length cap)).alloc (.cells #[.int .i64 (r:Int)] 3);have bK6:=Boxed.new (W5.alloc (.cells #[.slice (some ⟨b,off,none⟩) zs.length cap] 35)) 3 (.int .i64 (r:Int));rw [World.size_alloc] at bK6;have bW6:=(bW5.alloc (.cells #[.slice (some ⟨b,off,none⟩) zs.length cap] 35)).alloc (.cells #[.int .i64 (r:Int)] 3);have bO6:=(bO5.alloc (.cells #[.slice (some ⟨b,off,none⟩) zs.length cap] 35)).alloc (.cells #[.int .i64 (r:Int)] 3);have LK:Below W5.heap.size W5 ((W5.alloc (.cells #[.slice (some ⟨b,off,none⟩) zs.length cap] 35)).alloc (.cells #[.int .i64 (r:Int)] 3)):=((Below.refl _ W5).alloc (Nat.le_refl _) _).alloc (by simp) _;refine dU hro (by omega) (gf:=123) (lb:=#[.pointer (some ⟨W5.heap.size+1,0,none⟩),.pointer (some ⟨W5.heap.size,0,none⟩)]) rfl PU (enters_of Tryz.func123 (by kernel_rfl) rfl)
   (iM F qz.out _ (W5.heap.size+1) W5.heap.size r cap (some ⟨b,off,none⟩) zs hl5 hr1 (jF F qz.out zs hl5 _ cap r)) (fun _=>rfl)
   (GInv w W5.heap.size Bw Bm b off cap N base zs T (.slice a0 xs.length c0) (xs++[Wb.sg zs r]) ls r)
   (fun _ _=>False) (fun ch W=>ch = ko∧30 < xs.length+(Wb.sg zs r :: ls.flatten).length∧w.grownBy W (Value.slice a0 xs.length c0).ownBlock) (.inr hall.out)
   (GInv.own wl ml hbl (by rw [hs6];omega))
   (fun _ _ _ _ h _ _=>h)
   (fun i W hI=>⟨hI.bK.cell,hI.bT.cell,hI.JF.ints⟩)
   ⟨⟨v1,bO6,by simpa using mV.below LK,by simp;omega,fun k e=>by have:=hown1 k e;exact ⟨this.1,this.2.1,this.2.2.1,by omega,by omega⟩⟩,abJ.below LK,bW6,bK6,bT6,ic gr5 ⟨LK.os,LK.tape,LK.output,LK.size,fun k hk _=>LK.block k hk⟩ (row':=none) (fun k e=>by cases e)⟩
   (fun i=>{ tmps:=#[.pointer (some ⟨Bw,0,none⟩),.slice a0 xs.length c0,.int .i64 (r:Int),.pointer (some ⟨w.heap.size,0,none⟩),.pointer (some ⟨w.heap.size+1,0,none⟩),undef,.slice none 0 0,.int .i64 (Tm.pos zs r i:Int),.slice a0 xs.length c0,.int .i64 (xs.length:Int),.bool false,undef,.pointer (some ⟨Bw,0,none⟩),.int .i64 (p:Int),.int .i64 (r:Int),
     .slice a0 xs.length c0,.pointer (some ⟨Bw,0,none⟩),.pointer (some ⟨Bw,0,none⟩),.pointer (some ⟨Bw,0,none⟩),.slice (some ⟨b,off,none⟩) zs.length cap,.int .i64 (r:Int),x21,.int .i64 (Wb.sg zs r),x23,v1,.pointer (some ⟨Bw,0,none⟩),.pointer (some ⟨Bw,0,none⟩),.pointer (some ⟨Bw,0,none⟩),.slice (some ⟨b,off,none⟩) zs.length cap,.int .i64 (r:Int),
     .func (.func 123) #[] #[.pointer (some ⟨W5.heap.size+1,0,none⟩),.pointer (some ⟨W5.heap.size,0,none⟩)],.int .i64 (Tm.pos zs r i:Int),.int .i64 (Tm.pos zs r (i+1):Int),undef,undef,undef,undef,undef],defers:=[] }) ?assign ?body ?done ?stop ?panic
  case assign =>
   intro l i W K hK;simp only [ni];gi_wp2
   exact hK
  case body =>
   rintro l i W ⟨⟨v2,bO,eH,hl2,ho2⟩,qC,bW,bK,bT,hG⟩ hi;have hi':i < Tm.room (Wb.sg zs r):=hi;have hzw:=hG.size;have hnew:=World.ownsRow.lt eH;have hC:=LM qz.out (m:=0) (Hih.out i hi' v2 _ W qC eH (fun k e=>by
    rcases (ho2 k e).1 with h1 | h1
    ·exact Hv.out k h1
    ·exact ⟨by omega,by omega,by omega⟩) (by omega) (by rw [List.length_append];exact hl2))
   have Xk:=hid (CallsIn.inRound l hC);have hlt:i < ls.length:=by rw [Hls.out];exact hi'
   have hfl:=Wb.qE ls i hlt;have hfe:=Wb.H7 ls (i+1);have hfn:=congrArg List.length hfl;rw [List.length_append] at hfn;have Hfl:=hid hfl;have Hfn:=hid hfn;have Hfe:=hid hfe;have e1:=bW.cell;have e2:=bO.cell;have hbx:∀ {C:Nat} {t:TypeId} {x:Value},Boxed W C t x→C = w.heap.size∨C = w.heap.size+1∨C = W5.heap.size∨C = W5.heap.size+1→∀ W1:World,W.grownBy W1 v2.ownBlock→Boxed W1 C t x:=fun {C t x} hb hc W1 hg=>(hg.block C hb.lt (fun e=>by have:=ho2 C e.symm;omega)).trans hb
   clear hC hfl hfn hfe;gi_wp2_with (first
    | ((try refine ⟨hdd _,?_⟩);gi_at_call 141;refine Xk.out.mono ?_;clear Xk;rintro e W1 ⟨hg,(⟨hle,v3,rfl,iD,ho3⟩ | ⟨hgt,rfl⟩)⟩;(have Yh:=hbx bO (by omega) W1 hg;have cO1:=Yh.cell;have fO1:=Yh.frozen;obtain ⟨a3,n3,c3,rfl⟩:=iD.slice3)))
   ·have R6:KeepsFrom (W5.heap.size+1+1) W W1:=F7 eH hg
    have hno:∀ k,k < w.heap.size→k = Bw∨k = Bm∨k = b→W1.heap[k]? = W.heap[k]?:=fun k hk hc=>hg.block k (by omega) (fun e=>by
     rcases (ho2 k e.symm).1 with h1 | h1
     ·have:=Hv.out k h1;omega
     ·omega)
    have hset:∀ k,k≠w.heap.size+1→(W1.setCell ⟨w.heap.size+1,0,none⟩ (.slice a3 n3 c3)).heap[k]? = W1.heap[k]?:=fun k hk=>Below.heap_setCell W1 ⟨w.heap.size+1,0,none⟩ _ k hk
    have hsz:=hg.size;have hsc:=(KeepsWalks.setCell W1 ⟨w.heap.size+1,0,none⟩ (.slice a3 n3 c3)).size;have hol:=bO.lt;have akw:=bK.lt;have abK:∀ k,(Value.slice a3 n3 c3).ownBlock = some k→((Value.slice a0 xs.length c0).ownBlock = some k∨w.heap.size≤k)∧k≠w.heap.size∧k≠w.heap.size+1∧k≠W5.heap.size∧k≠W5.heap.size+1:=fun k e=>by
     rcases ho3 k e with h1 | h1
     ·exact ho2 k h1
     ·exact ⟨.inr (by omega),by omega,by omega,by omega,by omega⟩
    rw [hs6];refine ⟨R6.trans ((KeepsOthers.setCell _ _ _).from _),⟨_,Yh.set _,?_,?_,abK⟩,qC.of ((hset Bw (by omega)).trans (hno Bw wl (by omega))) ((hset Bm (by omega)).trans (hno Bm ml (by omega))) ((hset b (by omega)).trans (hno b hbl (by omega))) (by omega),(hbx bW (by omega) W1 hg).other (by omega) _,(hbx bK (by omega) W1 hg).other (by omega) _,(hbx bT (by omega) W1 hg).other (by omega) _,?_⟩
    ·rw [Hfl.out,← List.append_assoc]
     refine World.ownsRow.kept iD (dz W1 (w.heap.size+1) 0 _) ?_;cases hv:(Value.slice a3 n3 c3).ownBlock with
     | none=>exact .inl rfl
     | some k=>exact .inr (by have:=abK k hv;simp;omega)
    ·rw [Hfn.out]
     rw [List.length_append] at hle;omega
    ·exact ic (ic hG hg (fun k e=>(ho2 k e).1)) (dz W1 (w.heap.size+1) 0 _) (fun k e=>by cases e;exact .inr (by omega))
   ·refine ⟨rfl,F7 eH hg,rfl,?_,ic hG hg (fun k e=>(ho2 k e).1)⟩
    have h1:=Hfn.out;have h2:=Hfe.out;simp only [List.length_append,List.length_cons,List.length_nil] at hgt ⊢;omega
  case done =>
   rintro D W hD ⟨⟨v2,bO,eH,hl2,ho2⟩,qC,bW,bK,bT,hG⟩ qA;have e2:=bO.cell;rw [hs6] at hD;have hroom:Hid (ls.take (Tm.room (zs[r]?.getD 0)) = ls):=List.take_of_length_le (by rw [Hls.out];exact Nat.le_refl _);have hgD:W.grownBy (W.putObj D (.deferred none)) (some D):=⟨rfl,rfl,rfl,by simp,fun k _ hn=>World.putObj_heap_other (by simpa using hn)⟩;gi_wp2
   refine ⟨by simp,.inl ⟨_,_,rfl,run_takeDeferred qA,?_⟩⟩;rw [hroom.out] at eH hl2;refine ⟨_,results_tmp rfl _ _ _,ic hG hgD (fun k e=>by cases e;exact .inr (by omega)),.inl ⟨?_,v2,rfl,?_,fun k e=>(ho2 k e).1⟩⟩
   ·simp only [List.length_append,List.length_cons,List.length_nil] at hl2 ⊢
    omega
   ·have:=eH.own hgD (fun q e=>by cases e;exact ⟨_,qA,rfl⟩)
    rw [List.append_assoc] at this;exact this
  case stop=>exact fun _ _ _ _ h=>h.elim
  case panic =>
   rintro D ch W hD ⟨rfl,hgt,hG⟩ qA;rw [hs6] at hD;have hgD:W.grownBy (W.putObj D (.deferred none)) (some D):=⟨rfl,rfl,rfl,by simp,fun k _ hn=>World.putObj_heap_other (by simpa using hn)⟩;refine ⟨by simp,.inl ⟨_,_,rfl,run_takeDeferred qA,?_⟩⟩;exact ⟨ic hG hgD (fun k e=>by cases e;exact .inr (by omega)),.inr ⟨hgt,rfl⟩⟩
end
theorem P6 (zs:List Int) (G:Wb.Good zs) (T:Nat→Option Nat) (h:Nat→Nat) (S:Wb.St zs T h) (Bw Bm b off cap N base:Nat) {p:Nat} {l:List Int} (H:Wb.qY zs h p l):p < zs.length→∀ (v:Value) (xs:List Int) (w:World),dE w Bw Bm (some ⟨b,off,none⟩) cap zs N T→New base w v xs →
 (∀ k,v.ownBlock = some k→k≠Bw∧k≠Bm∧k≠b)→base≤w.heap.size→xs.length≤30 →
 CallsIn Fx 3 Tryz.prog 141 #[.pointer (some ⟨Bw,0,none⟩),v,.int .i64 (p:Int)] w fun e w'=>JP w w' base e v xs l:=by
 induction H with
 | mk p ls hl _ ih =>
  intro hp v xs w hW hN hv hb hx;by_cases jD:xs.length = 30
  ·exact LJ 3 base Bw p v xs _ w hN jD (by simp)
  ·obtain ⟨hr1,_,_⟩:=Wb.nQ G S hp
   exact Fy zs G T h S Bw Bm b off cap N base p ls v xs w hW hp hN hv hb (by omega) hl (fun i hi v1 ys W h1 h2 h3 h4 h5=>ih i hi (Wb.jL G hr1 hi) v1 ys W h1 h2 h3 h4 h5)
theorem P7 (zs:List Int) (G:Wb.Good zs) (T:Nat→Option Nat) (h:Nat→Nat) (S:Wb.St zs T h) (Bw Bm b off cap N:Nat) {p:Nat} {l:List Int} (H:Wb.qY zs h p l) (hp:p < zs.length) (w:World) (hW:dE w Bw Bm (some ⟨b,off,none⟩) cap zs N T) :
 Calls Tryz.prog 141 #[.pointer (some ⟨Bw,0,none⟩),.slice none 0 0,.int .i64 (p:Int)] w fun e w'=>Below w.heap.size w w'∧((l.length≤30∧∃ v,e = .returned v∧New w.heap.size w' v l)∨(30 < l.length∧e = .panicked ko)):=by
 refine Sl (CallsIn.mono (P6 zs G T h S Bw Bm b off cap N w.heap.size H hp (.slice none 0 0) [] w hW (New.nil _ _) (fun k e=>by cases e) (Nat.le_refl _) (by simp)) ?_);rintro e w' ⟨hg,hA⟩;refine ⟨⟨hg.os,hg.tape,hg.output,hg.size,fun k hk=>hg.block k hk (by simp [Value.ownBlock])⟩,?_⟩;rcases hA with ⟨h1,v,h2,h3,_⟩ | ⟨h1,h2⟩
 ·exact .inl ⟨by simpa using h1,v,h2,by simpa using h3⟩
 ·exact .inr ⟨by simpa using h1,h2⟩
end Go.Proofs.YtglohanbpjaieaaGreat
