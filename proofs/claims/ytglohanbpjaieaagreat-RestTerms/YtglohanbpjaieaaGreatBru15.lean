/-
  Parts of the proof: Web25, Uni1, Lit, Uni2, Uni3, Rul4, Rul5, Rul6, Rul7, Prs4, Rng6, Rul8.
-/
import Derived.Test.YtglohanbpjaieaaGreatBru14
set_option maxHeartbeats 30000000
set_option maxRecDepth 100000
namespace Go.Proofs.YtglohanbpjaieaaGreat
open Go.Proofs Go.RowKit Go.Shelf Go.Maps
def Sv (F:Bool→Act) (n:Nat) (wr:World) (B1 B0:Nat) (zs:List Int) (h:Nat→Nat) (p q:Nat) (e:Exit) (a':Act) (w4:World):Prop :=
 e = .normal∧∃ (qb:Bool) (v3:Value),a' = F qb∧Below n wr w4∧((qb = true∧∃ h',Wb.kN zs h h' [(p,q)]∧FW w4 B1 B0 v3 zs h')∨(qb = false∧Wb.No zs h [(p,q)]))
theorem Sv.panic {F:Bool→Act} {n:Nat} {wr:World} {B1 B0:Nat} {zs:List Int} {h:Nat→Nat} {p q:Nat} {c:_} {a':Act} {w4:World} {G:Prop} (H:Sv F n wr B1 B0 zs h p q (.panic c) a' w4):G:=by
 cases H.1
theorem Sw (ps:ah) (Di:ps.length≤40) (a:Option Addr) (cap:Nat) (w:World) (hP:aJ w.heap.size w a ps) :
 Calls Tryz.prog 127 #[.slice a ps.length cap] w fun e w'=>Below w.heap.size w w'∧Ig ps w' e:=by
 have LW:(ps.length:Int)≤40:=by omega
 have HP:=hid hP;clear hP;go_enter Tryz.func127,Tryz.ntmps127;go_wp2_with fail;go_loopw [14] (fun v wr=>∃ k:Nat,k≤ps.length∧v = .int .i64 (k:Int)∧Hid (Tm.firstPair ps = Tm.firstPair (ps.drop k))∧Below w.heap.size w wr) (fun v _=>ps.length - (intOf v).toNat)
 case atStart=>exact ⟨0,Nat.zero_le _,rfl,hid rfl,Below.refl _ _⟩
 case round =>
  obtain ⟨k,hk,rfl,hst,hB⟩:=hrel;by_cases hlt:k < ps.length
  ·have hlt':(k:Int) < (ps.length:Int):=by omega
   obtain ⟨b,off,rfl,hb,aL,cL,aR,cR,h1,h2,h3,h4,_⟩:=(HP.out.below hB) k hlt;have hs1:=hid (Tm.D9 hlt);have hs2:=hid (Tm.Ie hlt);obtain ⟨L,hL⟩:∃ L,(ps[k]?.getD ([],[])).1 = L:=⟨_,rfl⟩;obtain ⟨R,hR⟩:∃ R,(ps[k]?.getD ([],[])).2 = R:=⟨_,rfl⟩;rw [hL] at h1 h3 hs1 hs2;rw [hR] at h2 h4 hs1 hs2;have hBa:Below wr.heap.size wr (wr.alloc (.cells #[.slice aL L.length cL,.slice aR R.length cR] 40)):=(Below.refl _ wr).alloc (Nat.le_refl _) _;have jw:=hid (dZ L aL cL (wr.alloc (.cells #[.slice aL L.length cL,.slice aR R.length cR] 40)) (((h3.mono hB.size).below hBa).mono hBa.size));have hC2:=hid (fun w2 (hB2:Below (wr.alloc (.cells #[.slice aL L.length cL,.slice aR R.length cR] 40)).heap.size (wr.alloc (.cells #[.slice aL L.length cL,.slice aR R.length cR] 40)) w2)=>dZ R aR cR w2 (((((h4.mono hB.size).below hBa).mono hBa.size).below hB2).mono hB2.size));have hBw:=hB.trans (hBa.mono hB.size);have hq:Hid (Tm.bV L R = if Tm.err L = 0 then Tm.err R else Tm.err L):=rfl;have hsa:(wr.alloc (.cells #[.slice aL L.length cL,.slice aR R.length cR] 40)).heap.size = wr.heap.size+1:=by simp
   have hcp:(wr.alloc (.cells #[.slice aL L.length cL,.slice aR R.length cR] 40)).cell? ⟨wr.heap.size,1,none⟩ = some (.slice aR R.length cR):=(aM (World.alloc_heap_new wr _) 1).trans rfl;clear hL hR h3 h4;by_cases Rn:Tm.err L = 0
   ·rw [Rn] at jw
    by_cases Ym:Tm.err R = 0
    ·rw [Ym] at hC2
     have Hs:=hid (hs1.out (by rw [hq.out,if_pos Rn,Ym]));clear Rn Ym hs1 hs2 hq;go_wp2_with (first
      | (go_at_call_of 49 (Value.slice aL L.length cL);refine jw.out.mono ?_;clear jw;rintro e w2 ⟨rfl,b2⟩;have hc2:=(b2.cell (p:=⟨wr.heap.size,1,none⟩) (by rw [hsa];exact Nat.lt_succ_self _)).trans hcp)
      | (go_at_call_of 49 (Value.slice aR R.length cR);refine (hC2.out w2 b2).mono ?_;clear hC2;rintro e w5 ⟨rfl,b5⟩))
     go_roundw
     case rel=>exact ⟨k+1,by omega,by go_num,hid (hst.out.trans Hs.out),(hBw.trans (b2.mono hBw.size)).trans (b5.mono (hBw.trans (b2.mono hBw.size)).size)⟩
     case measure=>simp [intOf];omega
    ·have hn:(Tm.err R != 0) = true:=by simpa using Ym
     have Hs:=hid (hs2.out (by rw [hq.out,if_pos Rn];exact Ym));have Hv:=hid (show Tm.bV L R = Tm.err R by rw [hq.out,if_pos Rn]);have hne:=hid Ym;clear Rn Ym hs1 hs2 hq;generalize Tm.err R = q at *;go_wp2_with (first
      | (go_at_call_of 49 (Value.slice aL L.length cL);refine jw.out.mono ?_;clear jw;rintro e w2 ⟨rfl,b2⟩;have hc2:=(b2.cell (p:=⟨wr.heap.size,1,none⟩) (by rw [hsa];exact Nat.lt_succ_self _)).trans hcp)
      | (go_at_call_of 49 (Value.slice aR R.length cR);refine (hC2.out w2 b2).mono ?_;clear hC2;rintro e w5 ⟨rfl,b5⟩))
     go_ret3
     have he:=hst.out.trans (Hs.out.trans Hv.out);exact ⟨(hBw.trans (b2.mono hBw.size)).trans (b5.mono (hBw.trans (b2.mono hBw.size)).size),.inl ⟨by rw [he];exact hne.out,by rw [he];rfl⟩⟩
   ·have hn:(Tm.err L != 0) = true:=by simpa using Rn
    have Hs:=hid (hs2.out (by rw [hq.out,if_neg Rn];exact Rn));have Hv:=hid (show Tm.bV L R = Tm.err L by rw [hq.out,if_neg Rn]);have hne:=hid Rn;clear Rn hs1 hs2 hq;generalize Tm.err L = q at *;go_wp2_with (first
     | (go_at_call_of 49 (Value.slice aL L.length cL);refine jw.out.mono ?_;clear jw;rintro e w2 ⟨rfl,b2⟩))
    go_ret3
    have he:=hst.out.trans (Hs.out.trans Hv.out);exact ⟨hBw.trans (b2.mono hBw.size),.inl ⟨by rw [he];exact hne.out,by rw [he];rfl⟩⟩
  ·obtain rfl:k = ps.length:=by omega
   have hok:Hid (Tm.firstPair ps = 0):=by
    show _ = _;rw [hst.out,List.drop_length];rfl
   go_wp2_with (first
    | (go_at_call 132;refine (LU wr).mono ?_;rintro e w5 ⟨v5,rfl,hF5,gq⟩))
   have hsw:=hB.size;have ae5:=hB.trans (gq.mono hB.size);have HF5:=hid hF5;obtain ⟨W0,hW0⟩:∃ n,n = wr.heap.size:=⟨_,rfl⟩;rw [← hW0] at HF5 hsw;clear hF5 hst;go_wp2_with fail;rw [← hW0];clear hW0 gq hB;go_loopw [34] (fun x wq=>∃ (k:Nat) (zs:List Int) (h:Nat→Nat) (v:Value),k≤ps.length∧x = .int .i64 (k:Int)∧Hid (Wb.MInv ps k zs h)∧Hid (FW wq (W0+1) W0 v zs h)∧Hid (Below w.heap.size w wq)) (fun x _=>ps.length - (intOf x).toNat)
   case atStart=>exact ⟨0,_,_,v5,by omega,rfl,Wb.MInv.start ps,HF5,ae5⟩
   case round =>
    obtain ⟨k,zs,h,v,hk2,rfl,hM,hF,Ih⟩:=hrel;by_cases hlt:k < ps.length
    ·have hlt':(k:Int) < (ps.length:Int):=by omega
     obtain ⟨b,off,rfl,hb,aL,cL,aR,cR,h1,h2,h3,h4,_⟩:=(HP.out.below Ih.out) k hlt;obtain ⟨Yn,Yo⟩:=Tm.CG hok.out k hlt;obtain ⟨L,hL⟩:∃ L,(ps[k]?.getD ([],[])).1 = L:=⟨_,rfl⟩;obtain ⟨R,hR⟩:∃ R,(ps[k]?.getD ([],[])).2 = R:=⟨_,rfl⟩;rw [hL] at h1 h3 Yn;rw [hR] at h2 h4 Yo;have lL:=Tm.aI Yn;have lR:=Tm.aI Yo;have pL:=Tm.bM Yn;have pR:=Tm.bM Yo;have hzl:=hM.out.len;have G2:=hid (hM.out.Xr Yn Yo lL lR (by omega));have hsz:=Ih.out.size;have hlw:=hF.out.lt;obtain ⟨p,hp⟩:∃ p,p = zs.length:=⟨_,rfl⟩;obtain ⟨q,hq⟩:∃ q,q = (zs++L).length:=⟨_,rfl⟩;have hpq:q = p+L.length:=by rw [hp,hq,List.length_append]
     have hBa:Below wr.heap.size wr ((wr.alloc (.cells #[.slice aL L.length cL,.slice aR R.length cR] 40)).drewN 1):=below_drewN ((Below.refl _ wr).alloc (Nat.le_refl _) _) 1;have hsa:((wr.alloc (.cells #[.slice aL L.length cL,.slice aR R.length cR] 40)).drewN 1).heap.size = wr.heap.size+1:=by show (wr.alloc _).heap.size = _;simp
     have hblk:((wr.alloc (.cells #[.slice aL L.length cL,.slice aR R.length cR] 40)).drewN 1).heap[wr.heap.size]? = some (.cells #[.slice aL L.length cL,.slice aR R.length cR] 40):=World.alloc_heap_new wr _;have hnone:∀ {x:Option Addr} {t:List Int} {W:World} {n c:Nat},Ints n W x t→0 < t.length→x = none→t.length = 0∧c = 0:=fun {x t W n c} hI h0 e=>by
      obtain ⟨b',off',e',_⟩:=hI.at h0;rw [e] at e';cases e'
     have jw:=hid (LP zs L h (W0+1) W0 v aL cL _ (hF.out.keep hBa) (((h3.mono hsz).below hBa).mono hBa.size) (hnone h3 pL) (by omega));have hC2:=hid (fun w2 v2 (hF2:FW w2 (W0+1) W0 v2 (zs++L) h) (hB2:Below w.heap.size wr w2)=>LP (zs++L) R h (W0+1) W0 v2 aR cR w2 hF2 ((h4.below hB2).mono (by have:=hB2.size;omega)) (hnone h4 pR) (by rw [List.length_append];omega));rw [← hp] at jw;rw [← hq] at hC2;have hlen3:(zs++L++R).length = p+L.length+R.length:=by rw [hp,List.length_append,List.length_append]
     have hT:=hid (fun w3 v3 (Vv:FW w3 (W0+1) W0 v3 (zs++L++R) h)=>Yj (zs++L++R) G2.out h (W0+1) W0 v3 p q w3 (by omega) (by omega) Vv);have hstep:=hid (fun h' hTL S'=>hM.out.step Yn Yo lL lR (by omega) hL hR pL pR (h':=h') hTL S');have hno:=hid (fun hN=>hM.out.no Yn Yo lL (by omega) hL hR hN);rw [← hp,← hq] at hstep hno;have hwk:Hid (∀ (w1 w2:World) (u:Value) (zz:List Int) (hh:Nat→Nat),FW w1 (W0+1) W0 u zz hh→Sq w1 w2 (W0+1) W0 u→Below w.heap.size w1 w2):=fun w1 w2 u zz hh hf hk=>⟨hk.1,hk.2.1,hk.2.2.1,hk.2.2.2.1,fun x hx=>hk.2.2.2.2 x (by have:=hf.lt;omega) (by omega) (by omega) (fun e=>by have:=(World.ownsRow.lt hf.own.2 x e.symm).1;omega)⟩
     have hFa:=hid (hF.out.keep hBa);have Sy:=hid (fun x (e:v.ownBlock = some x)=>(World.ownsRow.lt hF.out.own.2 x e).2);clear hL hR h3 h4 hp hq hnone hM hF Yn Yo hpq hlen3;have hcc:Hid (∀ W:World,W.heap[wr.heap.size]? = some (.cells #[.slice aL L.length cL,.slice aR R.length cR] 40)→W.cell? ⟨wr.heap.size,0,none⟩ = some (.slice aL L.length cL)∧W.cell? ⟨wr.heap.size,1,none⟩ = some (.slice aR R.length cR)):=fun W hW=>⟨(aM hW 0).trans rfl,(aM hW 1).trans rfl⟩
     have hb2:Hid (∀ (w2:World),Sq ((wr.alloc (.cells #[.slice aL L.length cL,.slice aR R.length cR] 40)).drewN 1) w2 (W0+1) W0 v→w2.heap[wr.heap.size]? = some (.cells #[.slice aL L.length cL,.slice aR R.length cR] 40)):=fun w2 hk=>(hk.2.2.2.2 wr.heap.size (by rw [hsa];omega) (by omega) (by omega) (fun e=>by have:=Sy.out _ e.symm;omega)).trans hblk
     have hS0:=hcc.out _ hblk;have Ya:(wr.alloc (.cells #[.slice aL L.length cL,.slice aR R.length cR] 40)).cell? ⟨wr.heap.size,0,none⟩ = some (.slice aL L.length cL)∧(wr.alloc (.cells #[.slice aL L.length cL,.slice aR R.length cR] 40)).cell? ⟨wr.heap.size,1,none⟩ = some (.slice aR R.length cR):=hS0;go_wp2_with fail;have mixed:Tryz.prog.follows .mixedOrders = true:=by kernel_rfl
     refine wp_mono (Q:=Sv (fun qb=>{ tmps:=#[.slice (some ⟨b,off,none⟩) ps.length cap,undef,u2,u3,u4,undef,u6,u7,u8,.pointer (some ⟨W0+1,0,none⟩),undef,.pointer (some ⟨wr.heap.size,0,none⟩),.slice (some ⟨b,off,none⟩) ps.length cap,.int .i64 (ps.length:Int),.int .i64 (ps.length:Int),.bool false,u16,u17,u18,u19,u20,u21,u22,u23,u24,u25,u26,u27,u28,u29,u30,.pointer (some ⟨W0+1,0,none⟩),.slice (some ⟨b,off,none⟩) ps.length cap,.int .i64 (ps.length:Int),.int .i64 (k:Int),.bool true,.pointer (some ⟨b,off+k * 2,none⟩),.agg #[.slice aL L.length cL,.slice aR R.length cR],.pointer (some ⟨W0+1,0,none⟩),.pointer (some ⟨W0+1,0,none⟩),.pointer (some ⟨wr.heap.size,0,none⟩),.slice aL L.length cL,.int .i64 (p:Int),.pointer (some ⟨W0+1,0,none⟩),.pointer (some ⟨wr.heap.size,1,none⟩),.slice aR R.length cR,.int .i64 (q:Int),.bool qb,.bool !qb,u49,undef,undef,undef,undef,undef,undef,undef],defers:=[] }) w.heap.size wr (W0+1) W0 (zs++L++R) h p q) ?reg ?aft
     case reg =>
      refine wp_region_any mixed ?_;change wpAny _ _ _ _ _ _ _ (World.drew _);show wpAny _ _ _ _ 11 (Array.replicate 11 false) _ _;refine wpAny_take (i:=0) (v:=.pointer (some ⟨W0+1,0,none⟩)) rfl (by kernel_rfl) (by kernel_rfl) (by kernel_rfl) (fun _ _ _ h=>h.panic) (Or.inl ⟨by rfl,fun w=>by go_simp⟩) ?_;refine wpAny_take (i:=1) (v:=.pointer (some ⟨W0+1,0,none⟩)) rfl (by kernel_rfl) (by kernel_rfl) (by kernel_rfl) (fun _ _ _ h=>h.panic) (Or.inl ⟨by rfl,fun w=>by go_simp⟩) ?_;refine wpAny_take (i:=2) (v:=.pointer (some ⟨wr.heap.size,0,none⟩)) rfl (by kernel_rfl) (by kernel_rfl) (by kernel_rfl) (fun _ _ _ h=>h.panic) (Or.inl ⟨by rfl,fun w=>by go_simp⟩) ?_;refine wpAny_take (i:=5) (v:=.pointer (some ⟨W0+1,0,none⟩)) rfl (by kernel_rfl) (by kernel_rfl) (by kernel_rfl) (fun _ _ _ h=>h.panic) (Or.inl ⟨by rfl,fun w=>by go_simp⟩) ?_;refine wpAny_take (i:=6) (v:=.pointer (some ⟨wr.heap.size,1,none⟩)) rfl (by kernel_rfl) (by kernel_rfl) (by kernel_rfl) (fun _ _ _ h=>h.panic) (Or.inl ⟨by rfl,fun w=>by go_simp⟩) ?_;refine wpAny_ready (rs:=[3,7]) (by kernel_rfl) (by simp) ?_;refine AllReady.cons rfl (fun K hK=>?_) (AllReady.cons rfl (fun K hK=>?_) AllReady.nil)
      ·go_simp
       refine hK _ _ ?_;clear hK K;refine wpAny_ready (rs:=[4,7]) (by kernel_rfl) (by simp) ?_;refine AllReady.cons rfl (fun K hK=>?_) (AllReady.cons rfl (fun K hK=>?_) AllReady.nil)
       ·go_simp
        refine jw.out.mono ?_;rintro e w2 ⟨rfl,v2,hF2,hK2,ho2⟩;have Ec:=hb2.out w2 hK2;have hS2:w2.cell? ⟨wr.heap.size,0,none⟩ = some (.slice aL L.length cL)∧w2.cell? ⟨wr.heap.size,1,none⟩ = some (.slice aR R.length cR):=hcc.out w2 Ec;have c21:=hS2.2;have hB2:Below w.heap.size wr w2:=(hBa.mono hsz).trans (hwk.out _ w2 v _ _ hFa.out hK2);refine hK _ _ ?_;clear hK K;refine wpAny_ready (rs:=[7]) (by kernel_rfl) (by simp) ?_;refine AllReady.cons rfl (fun K hK=>?_) AllReady.nil;go_simp;refine hK _ _ ?_;clear hK K;refine wpAny_ready (rs:=[8]) (by kernel_rfl) (by simp) ?_;refine AllReady.cons rfl (fun K hK=>?_) AllReady.nil;go_simp;refine (hC2.out w2 v2 hF2 hB2).mono ?_;rintro e w3 ⟨rfl,v3,Vv,hK3,ho3⟩;have Ed:w3.heap[wr.heap.size]? = some (.cells #[.slice aL L.length cL,.slice aR R.length cR] 40):=(hK3.2.2.2.2 wr.heap.size (Array.getElem?_eq_some_iff.1 Ec).1 (by omega) (by omega) (fun e=>by rcases ho2 _ e.symm with h | h;exact absurd (Sy.out _ h) (Nat.lt_irrefl _);rw [hsa] at h;omega)).trans Ec;have Dc:w3.cell? ⟨wr.heap.size,0,none⟩ = some (.slice aL L.length cL)∧w3.cell? ⟨wr.heap.size,1,none⟩ = some (.slice aR R.length cR):=hcc.out w3 Ed;have hB3:Below w.heap.size wr w3:=hB2.trans (hwk.out _ w3 v2 _ _ hF2 hK3);refine hK _ _ ?_;clear hK K;refine wpAny_ready (rs:=[9]) (by kernel_rfl) (by simp) ?_;refine AllReady.cons rfl (fun K hK=>?_) AllReady.nil;go_simp;refine (hT.out w3 v3 Vv).mono ?_;rintro e w4 ⟨qb,rfl,hK4,hq4⟩;have SA:w4.heap[wr.heap.size]? = some (.cells #[.slice aL L.length cL,.slice aR R.length cR] 40):=(hK4.block _ (Array.getElem?_eq_some_iff.1 Ed).1 (by omega)).trans Ed;have DJ:w4.cell? ⟨wr.heap.size,0,none⟩ = some (.slice aL L.length cL)∧w4.cell? ⟨wr.heap.size,1,none⟩ = some (.slice aR R.length cR):=hcc.out w4 SA;have hB4:Below w.heap.size wr w4:=hB3.trans ⟨hK4.os,hK4.tape,hK4.output,hK4.size,fun x hx=>hK4.block x (by have:=hB3.size;omega) (by omega)⟩;refine hK _ _ ?_;clear hK K;refine wpAny_ready (rs:=[10]) (by kernel_rfl) (by simp) ?_;refine AllReady.cons rfl (fun K hK=>?_) AllReady.nil;go_simp;refine hK _ _ ?_;clear hK K;refine wpAny_done (by kernel_rfl) ?_ _;exact ⟨rfl,qb,v3,rfl,hB4,hq4⟩
       ·go_simp
        refine hK _ _ ?_;clear hK K;refine wpAny_ready (rs:=[4]) (by kernel_rfl) (by simp) ?_;refine AllReady.cons rfl (fun K hK=>?_) AllReady.nil;go_simp;refine jw.out.mono ?_;rintro e w2 ⟨rfl,v2,hF2,hK2,ho2⟩;have Ec:=hb2.out w2 hK2;have hS2:w2.cell? ⟨wr.heap.size,0,none⟩ = some (.slice aL L.length cL)∧w2.cell? ⟨wr.heap.size,1,none⟩ = some (.slice aR R.length cR):=hcc.out w2 Ec;have c21:=hS2.2;have hB2:Below w.heap.size wr w2:=(hBa.mono hsz).trans (hwk.out _ w2 v _ _ hFa.out hK2);refine hK _ _ ?_;clear hK K;refine wpAny_ready (rs:=[8]) (by kernel_rfl) (by simp) ?_;refine AllReady.cons rfl (fun K hK=>?_) AllReady.nil;go_simp;refine (hC2.out w2 v2 hF2 hB2).mono ?_;rintro e w3 ⟨rfl,v3,Vv,hK3,ho3⟩;have Ed:w3.heap[wr.heap.size]? = some (.cells #[.slice aL L.length cL,.slice aR R.length cR] 40):=(hK3.2.2.2.2 wr.heap.size (Array.getElem?_eq_some_iff.1 Ec).1 (by omega) (by omega) (fun e=>by rcases ho2 _ e.symm with h | h;exact absurd (Sy.out _ h) (Nat.lt_irrefl _);rw [hsa] at h;omega)).trans Ec;have Dc:w3.cell? ⟨wr.heap.size,0,none⟩ = some (.slice aL L.length cL)∧w3.cell? ⟨wr.heap.size,1,none⟩ = some (.slice aR R.length cR):=hcc.out w3 Ed;have hB3:Below w.heap.size wr w3:=hB2.trans (hwk.out _ w3 v2 _ _ hF2 hK3);refine hK _ _ ?_;clear hK K;refine wpAny_ready (rs:=[9]) (by kernel_rfl) (by simp) ?_;refine AllReady.cons rfl (fun K hK=>?_) AllReady.nil;go_simp;refine (hT.out w3 v3 Vv).mono ?_;rintro e w4 ⟨qb,rfl,hK4,hq4⟩;have SA:w4.heap[wr.heap.size]? = some (.cells #[.slice aL L.length cL,.slice aR R.length cR] 40):=(hK4.block _ (Array.getElem?_eq_some_iff.1 Ed).1 (by omega)).trans Ed;have DJ:w4.cell? ⟨wr.heap.size,0,none⟩ = some (.slice aL L.length cL)∧w4.cell? ⟨wr.heap.size,1,none⟩ = some (.slice aR R.length cR):=hcc.out w4 SA;have hB4:Below w.heap.size wr w4:=hB3.trans ⟨hK4.os,hK4.tape,hK4.output,hK4.size,fun x hx=>hK4.block x (by have:=hB3.size;omega) (by omega)⟩;refine hK _ _ ?_;clear hK K;refine wpAny_ready (rs:=[10]) (by kernel_rfl) (by simp) ?_;refine AllReady.cons rfl (fun K hK=>?_) AllReady.nil;go_simp;refine hK _ _ ?_;clear hK K;refine wpAny_done (by kernel_rfl) ?_ _;exact ⟨rfl,qb,v3,rfl,hB4,hq4⟩
      ·go_simp
       refine hK _ _ ?_;clear hK K;refine wpAny_ready (rs:=[3]) (by kernel_rfl) (by simp) ?_;refine AllReady.cons rfl (fun K hK=>?_) AllReady.nil;go_simp;refine hK _ _ ?_;clear hK K;refine wpAny_ready (rs:=[4]) (by kernel_rfl) (by simp) ?_;refine AllReady.cons rfl (fun K hK=>?_) AllReady.nil;go_simp;refine jw.out.mono ?_;rintro e w2 ⟨rfl,v2,hF2,hK2,ho2⟩;have Ec:=hb2.out w2 hK2;have hS2:w2.cell? ⟨wr.heap.size,0,none⟩ = some (.slice aL L.length cL)∧w2.cell? ⟨wr.heap.size,1,none⟩ = some (.slice aR R.length cR):=hcc.out w2 Ec;have c21:=hS2.2;have hB2:Below w.heap.size wr w2:=(hBa.mono hsz).trans (hwk.out _ w2 v _ _ hFa.out hK2);refine hK _ _ ?_;clear hK K;refine wpAny_ready (rs:=[8]) (by kernel_rfl) (by simp) ?_;refine AllReady.cons rfl (fun K hK=>?_) AllReady.nil;go_simp;refine (hC2.out w2 v2 hF2 hB2).mono ?_;rintro e w3 ⟨rfl,v3,Vv,hK3,ho3⟩;have Ed:w3.heap[wr.heap.size]? = some (.cells #[.slice aL L.length cL,.slice aR R.length cR] 40):=(hK3.2.2.2.2 wr.heap.size (Array.getElem?_eq_some_iff.1 Ec).1 (by omega) (by omega) (fun e=>by rcases ho2 _ e.symm with h | h;exact absurd (Sy.out _ h) (Nat.lt_irrefl _);rw [hsa] at h;omega)).trans Ec;have Dc:w3.cell? ⟨wr.heap.size,0,none⟩ = some (.slice aL L.length cL)∧w3.cell? ⟨wr.heap.size,1,none⟩ = some (.slice aR R.length cR):=hcc.out w3 Ed;have hB3:Below w.heap.size wr w3:=hB2.trans (hwk.out _ w3 v2 _ _ hF2 hK3);refine hK _ _ ?_;clear hK K;refine wpAny_ready (rs:=[9]) (by kernel_rfl) (by simp) ?_;refine AllReady.cons rfl (fun K hK=>?_) AllReady.nil;go_simp;refine (hT.out w3 v3 Vv).mono ?_;rintro e w4 ⟨qb,rfl,hK4,hq4⟩;have SA:w4.heap[wr.heap.size]? = some (.cells #[.slice aL L.length cL,.slice aR R.length cR] 40):=(hK4.block _ (Array.getElem?_eq_some_iff.1 Ed).1 (by omega)).trans Ed;have DJ:w4.cell? ⟨wr.heap.size,0,none⟩ = some (.slice aL L.length cL)∧w4.cell? ⟨wr.heap.size,1,none⟩ = some (.slice aR R.length cR):=hcc.out w4 SA;have hB4:Below w.heap.size wr w4:=hB3.trans ⟨hK4.os,hK4.tape,hK4.output,hK4.size,fun x hx=>hK4.block x (by have:=hB3.size;omega) (by omega)⟩;refine hK _ _ ?_;clear hK K;refine wpAny_ready (rs:=[10]) (by kernel_rfl) (by simp) ?_;refine AllReady.cons rfl (fun K hK=>?_) AllReady.nil;go_simp;refine hK _ _ ?_;clear hK K;refine wpAny_done (by kernel_rfl) ?_ _;exact ⟨rfl,qb,v3,rfl,hB4,hq4⟩
     case aft =>
      rintro e a' w4 ⟨rfl,qb,v3,rfl,hB4,hq4⟩;clear jw hC2 hT hb2 hcc hS0 Ya hwk hFa Sy hblk hBa;rcases hq4 with ⟨rfl,h',hTL,hF4⟩ | ⟨rfl,yT⟩
      ·go_wp2
       go_roundw
       case rel =>
        have Yp:=Ih.out.trans hB4;have HF4:=hid hF4;obtain ⟨_,T4,_,_,S4,_⟩:=hF4;exact ⟨k+1,zs++L++R,h',v3,by omega,by go_num,hid (hstep.out h' hTL ⟨T4,S4⟩),HF4,hid Yp⟩
       case measure=>simp [intOf];omega
      ·go_wp2
       go_ret3
       have Yp:=Ih.out.trans hB4;exact ⟨Yp,.inr ⟨hok.out,.inl ⟨fun θ hθ H=>hno.out yT θ hθ (fun j hj=>H j (by omega)),rfl⟩⟩⟩
    ·obtain rfl:k = ps.length:=by omega
     obtain ⟨T,hS⟩:=hM.out.st;obtain ⟨b,c,rfl,T',N,S',hWb,_⟩:=hF.out.st (by have:=hM.out.good.eight;omega);have hTB:=hid (Fw zs hM.out.good T' h S' (W0+1) W0 b 0 c N wr hWb);have hGr:=hid (fun w7 (JV:Below wr.heap.size wr w7) f (hf:∀ i,i < 8→Wb.qY zs h i (f i))=>Sm zs hM.out.good T' h S' (W0+1) W0 b 0 c N f hf w7 (hWb.below JV));clear hWb hS;go_wp2_with (first
      | (go_at_call 135;refine hTB.out.mono ?_;clear hTB;rintro e w7 ⟨JV,(⟨rfl,yT⟩ | ⟨rfl,Si⟩)⟩)
      | (go_at_call 136;obtain ⟨σ,hσ,hE⟩:=hM.out.mgu Si;refine (hGr.out w7 JV (fun i:Nat=>σ (-1 - (i:Int))) hE).mono ?_;clear hGr;rintro e w8 ⟨rJ,(⟨jD,a8,rfl,hS8⟩ | ⟨jD,rfl⟩)⟩))
     ·go_ret3
      exact ⟨Ih.out.trans (JV.mono Ih.out.size),.inr ⟨hok.out,.inl ⟨fun θ hθ H=>yT θ hθ (hM.out.sound θ hθ H),rfl⟩⟩⟩
     ·go_ret3
      have SB:=Ih.out.trans (JV.mono Ih.out.size);exact ⟨SB.trans (rJ.mono SB.size),.inr ⟨hok.out,.inr ⟨σ,hσ,.inl ⟨jD,a8,rfl,hS8⟩⟩⟩⟩
     ·go_ret3
      have SB:=Ih.out.trans (JV.mono Ih.out.size);exact ⟨SB.trans (rJ.mono SB.size),.inr ⟨hok.out,.inr ⟨σ,hσ,.inr ⟨jD,rfl⟩⟩⟩⟩
theorem Tm.zf {s:Int} (h1:-8≤s) (h2:s < 6):Tm.known s = true:=by
 simp [Tm.known];omega
theorem Tm.Co {ss:List (List Int)} (h:∀ k,k < ss.length→Tm.err (ss[k]?.getD []) = 0):Tm.firstErr ss = 0:=by
 induction ss with
 | nil=>rfl
 | cons t l ih =>
  rw [Tm.firstErr,if_pos (by simpa using h 0 (by simp))];exact ih fun k hk=>by simpa using h (k+1) (by simpa using hk)
def Tm.Bv (σ:Wb.Sb):List (List Int):=(List.range 8).map fun i:Nat=>σ (-1 - (i:Int))
theorem Tm.gF (σ:Wb.Sb):(Tm.Bv σ).length = 8:=by simp [Tm.Bv]
theorem Tm.Ii (σ:Wb.Sb) {i:Nat} (h:i < 8):(Tm.Bv σ)[i]?.getD [] = σ (-1 - (i:Int)):=by
 unfold Tm.Bv;rw [List.getElem?_map,List.getElem?_range h];rfl
theorem Tm.Ga {σ τ:Wb.Sb} (h:∀ v,-8≤v→v < 0→σ v = τ v):Tm.Bv σ = Tm.Bv τ:=by
 unfold Tm.Bv;refine List.map_congr_left fun i hi=>?_
 have:=List.mem_range.1 hi
 exact h _ (by omega) (by omega)
theorem Tm.P9 (σ:Wb.Sb) {s:Int} (h8:-8≤s):Tm.piece (Tm.Bv σ) s = if s < 0 then σ s else [s]:=by
 unfold Tm.piece;by_cases hs:s < 0
 ·rw [if_pos hs,if_pos hs,Tm.Ii σ (by omega),show -1 - (((-1 - s).toNat:Nat):Int) = s from by omega]
 ·rw [if_neg hs,if_neg hs]
theorem Tm.qF (σ:Wb.Sb):∀ (t:List Int),t.all Tm.known = true→Tm.applied (Tm.Bv σ) t = Wb.App σ t:=by
 intro t;induction t with
 | nil=>intro _;rfl
 | cons s l ih =>
  intro h;rw [List.all_cons,Bool.and_eq_true] at h;rw [Tm.fK,Wb.App_cons,ih h.2,Tm.P9 σ (Tm.iK h.1)]
def Tm.dQ (ps:ah) (er:Int) (is:Bool) (val:List (List Int)):Prop :=
 (Tm.firstPair ps≠0∧er = Tm.firstPair ps∧is = false∧val = []) ∨
 (Tm.firstPair ps = 0∧(∀ θ,Wb.TermSb θ→¬ Wb.Same ps ps.length θ)∧er = 0∧is = false∧val = []) ∨
 (Tm.firstPair ps = 0∧∃ σ,Wb.Su ps σ∧(∀ i:Nat,i < 8→(σ (-1 - (i:Int))).length≤30)∧er = 0∧is = true∧val = Tm.Bv σ) ∨
 (Tm.firstPair ps = 0∧∃ σ,Wb.Su ps σ∧(∃ i:Nat,i < 8∧30 < (σ (-1 - (i:Int))).length)∧er = 2∧is = false∧val = [])
theorem Tm.dQ.one {ps:ah} {er FB:Int} {is is':Bool} {val Yq:List (List Int)} (A:Tm.dQ ps er is val) (B:Tm.dQ ps FB is' Yq):er = FB∧is = is'∧val = Yq:=by
 rcases A with ⟨a1,rfl,rfl,rfl⟩ | ⟨a1,a2,rfl,rfl,rfl⟩ | ⟨a1,σ,a2,a3,rfl,rfl,rfl⟩ | ⟨a1,σ,a2,⟨i,hi,a3⟩,rfl,rfl,rfl⟩ <;>
 rcases B with ⟨b1,rfl,rfl,rfl⟩ | ⟨b1,b2,rfl,rfl,rfl⟩ | ⟨b1,τ,b2,b3,rfl,rfl,rfl⟩ | ⟨b1,τ,b2,⟨j,hj,b3⟩,rfl,rfl,rfl⟩
 ·exact ⟨rfl,rfl,rfl⟩
 ·exact absurd b1 a1
 ·exact absurd b1 a1
 ·exact absurd b1 a1
 ·exact absurd a1 b1
 ·exact ⟨rfl,rfl,rfl⟩
 ·exact absurd b2.same (a2 τ b2.term)
 ·exact absurd b2.same (a2 τ b2.term)
 ·exact absurd a1 b1
 ·exact absurd a2.same (b2 σ a2.term)
 ·exact ⟨rfl,rfl,Tm.Ga (a2.one b2)⟩
 ·have:=a2.one b2 (-1 - (j:Int)) (by omega) (by omega)
  have h:=a3 j hj;rw [this] at h;omega
 ·exact absurd a1 b1
 ·exact absurd a2.same (b2 σ a2.term)
 ·have:=a2.one b2 (-1 - (i:Int)) (by omega) (by omega)
  have h:=b3 i hi;rw [← this] at h;omega
 ·exact ⟨rfl,rfl,rfl⟩
theorem Wb.Su.errs {ps:ah} {σ:Wb.Sb} (M:Wb.Su ps σ) (h:∀ i:Nat,i < 8→(σ (-1 - (i:Int))).length≤30):Tm.dO (Tm.Bv σ) = 0:=by
 have h1:Tm.firstErr (Tm.Bv σ) = 0:=by
  refine Tm.Co fun i hi=>?_
  rw [Tm.gF] at hi;rw [Tm.Ii σ hi];refine Tm.oJ (h i hi) ?_ (M.term _ (by omega));rw [List.all_eq_true];intro s hs;obtain ⟨h1,h2⟩:=M.vars _ (by omega) (by omega) s hs;exact Tm.zf h1 h2
 unfold Tm.dO;rw [if_pos (Tm.gF σ),h1]
theorem Tm.kH (a b:List Int):Tm.firstPair [(a,b)] = Tm.bV a b:=by
 rw [Tm.firstPair];by_cases h:Tm.bV a b = 0
 ·rw [if_pos h,h];rfl
 ·rw [if_neg h]
theorem Tm.jN {a b:List Int}:Tm.bV a b = 0 ↔ Tm.err a = 0∧Tm.err b = 0:=by
 unfold Tm.bV;by_cases h:Tm.err a = 0
 ·rw [if_pos h];exact ⟨fun e=>⟨h,e⟩,fun e=>e.2⟩
 ·rw [if_neg h];exact ⟨fun e=>absurd e h,fun e=>absurd e.1 h⟩
theorem Tm.Gb {a b:List Int} {val:List (List Int)} (A:Tm.dQ [(a,b)] 0 true val):Tm.dO val = 0∧Tm.err a = 0∧Tm.err b = 0∧Tm.applied val a = Tm.applied val b∧Tm.zg val val = 0∧Tm.JW val val = val:=by
 rcases A with ⟨_,_,h,_⟩ | ⟨_,_,_,h,_⟩ | ⟨a1,σ,M,jD,_,_,rfl⟩ | ⟨_,σ,_,_,_,h,_⟩
 ·cases h
 ·cases h
 ·rw [Tm.kH,Tm.jN] at a1
  have hs:=M.errs jD;have hss:Tm.Ij (Tm.Bv σ) (Tm.Bv σ) = Tm.Bv σ:=by
   unfold Tm.Ij;rw [Tm.Bv,List.map_map];refine List.map_congr_left fun i hi=>?_
   have:=List.mem_range.1 hi
   show Tm.applied (Tm.Bv σ) (σ _) = σ _;rw [Tm.qF σ _ (by
    rw [List.all_eq_true];intro s hs;obtain ⟨h1,h2⟩:=M.vars _ (by omega) (by omega) s hs;exact Tm.zf h1 h2)]
   exact (M.most σ M.term M.same _ (by omega) (by omega)).symm
  have he:Tm.zg (Tm.Bv σ) (Tm.Bv σ) = 0:=by
   unfold Tm.zg;rw [if_pos hs,if_pos hs,if_pos];rw [List.all_eq_true];intro t ht;have hm:Tm.applied (Tm.Bv σ) t∈Tm.Ij (Tm.Bv σ) (Tm.Bv σ):=List.mem_map_of_mem ht;rw [hss] at hm;unfold Tm.fits;rw [decide_eq_true_eq];obtain ⟨i,hi,e⟩:=List.mem_map.1 hm;rw [← e];exact jD i (List.mem_range.1 hi)
  refine ⟨hs,a1.1,a1.2,?_,he,by unfold Tm.JW;rw [if_pos he,hss]⟩;rw [Tm.qF σ a (Tm.dH a1.1),Tm.qF σ b (Tm.dH a1.2)];exact M.same 0 (by simp)
 ·cases h
theorem Ig.says {ps:ah} {W:World} {e:Ending} (h:Ig ps W e):∃ er is val a,Tm.dQ ps er is val∧e = .returned (.tuple #[.slice a val.length val.length,.bool is,.int .i64 er])∧gu W.heap.size W a val:=by
 rcases h with ⟨h1,rfl⟩ | ⟨h1,⟨h2,rfl⟩ | ⟨σ,M,⟨jD,a,rfl,hS⟩ | ⟨jD,rfl⟩⟩⟩
 ·exact ⟨_,_,[],none,.inl ⟨h1,rfl,rfl,rfl⟩,rfl,gu.nil _ _ _⟩
 ·exact ⟨_,_,[],none,.inr (.inl ⟨h1,h2,rfl,rfl,rfl⟩),rfl,gu.nil _ _ _⟩
 ·exact ⟨_,_,Tm.Bv σ,a,.inr (.inr (.inl ⟨h1,σ,M,jD,rfl,rfl,rfl⟩)),by rw [Tm.gF],hS⟩
 ·exact ⟨_,_,[],none,.inr (.inr (.inr ⟨h1,σ,M,jD,rfl,rfl,rfl⟩)),rfl,gu.nil _ _ _⟩
theorem Ee {n B:Nat} {W:World} {rs:aH} {cs:Array Value} {t:TypeId} {p:Nat × Nat} (hblk:W.heap[B]? = some (.cells cs t p)) (hB:B < n)
 (h:∀ k,k < rs.length→∃ aL aR,cs[k * 2]? = some (.slice aL (rs[k]?.getD ([],[])).1.length (rs[k]?.getD ([],[])).1.length)∧cs[k * 2+1]? = some (.slice aR (rs[k]?.getD ([],[])).2.length (rs[k]?.getD ([],[])).2.length) ∧
   Ints n W aL (rs[k]?.getD ([],[])).1∧Ints n W aR (rs[k]?.getD ([],[])).2∧(rs[k]?.getD ([],[])).1.length≤1000∧(rs[k]?.getD ([],[])).2.length≤1000):aJ n W (some ⟨B,0,none⟩) rs:=fun k hk=>by
 obtain ⟨aL,aR,h1,h2,h3,h4,h5,h6⟩:=h k hk;refine ⟨B,0,rfl,hB,aL,_,aR,_,by rw [aM hblk,Nat.zero_add];exact h1,by rw [aM hblk,Nat.zero_add];exact h2,h3,h4,Nat.le_refl _,by unfold maxLen;omega,Nat.le_refl _,by unfold maxLen;omega⟩
def allocs:World→List (List Int)→World
 | w,[]=>w
 | w,z :: l=>allocs (w.alloc (.cells (z.map (Value.int .i64)).toArray 3)) l
theorem JX:∀ (l:List (List Int)) (w:World),(allocs w l).heap.size = w.heap.size+l.length:=by
 intro l;induction l with
 | nil=>intro w;rfl
 | cons z l ih=>intro w;rw [allocs,ih,World.size_alloc,List.length_cons];omega
theorem zh:∀ (l:List (List Int)) (w:World),Below w.heap.size w (allocs w l):=by
 intro l;induction l with
 | nil=>intro w;exact Below.refl _ _
 | cons z l ih =>
  intro w;rw [allocs];exact ((Below.refl _ w).alloc (Nat.le_refl _) _).trans ((ih _).mono (by simp))
theorem JY:∀ (l:List (List Int)) (w:World) (i:Nat),i < l.length→Ints (w.heap.size+l.length) (allocs w l) (some ⟨w.heap.size+i,0,none⟩) (l[i]?.getD []):=by
 intro l;induction l with
 | nil=>intro w i hi;simp at hi
 | cons z l ih =>
  intro w i hi;rw [allocs];cases i with
  | zero =>
   have h1:=fH w z (w.heap.size+1) rfl;have h2:=h1.below (by rw [← World.size_alloc w (.cells (z.map (Value.int .i64)).toArray 3)];exact zh l _);exact h2.mono (by rw [List.length_cons];omega)
  | succ i =>
   have h:=ih (w.alloc (.cells (z.map (Value.int .i64)).toArray 3)) i (by simpa using hi);rw [World.size_alloc] at h;rw [show w.heap.size+(i+1) = w.heap.size+1+i from by omega,show w.heap.size+(z :: l).length = w.heap.size+1+l.length from by rw [List.length_cons];omega];exact h
theorem Yr (xs ys:List Int) (n m c:Nat) (a:Option Addr) (w:World) (hn:n = xs.length) (hm:m = ys.length) (hl:xs.length≤1000) (hI:Ints w.heap.size w a xs) (h:dK xs ys = true) :
 Calls Tryz.prog 25 #[.slice a n c,.slice (some ⟨w.heap.size,0,none⟩) m m] (w.alloc (.cells (ys.map (Value.int .i64)).toArray 3)) fun e w'=>e = .returned (.bool true)∧Below w.heap.size w w':=by
 subst hn hm;have hB:Below w.heap.size w (w.alloc (.cells (ys.map (Value.int .i64)).toArray 3)):=(Below.refl _ _).alloc (Nat.le_refl _) _;refine (nO xs ys a _ c ys.length _ ((hI.below hB).mono hB.size) (fH w ys _ (by simp)) (by unfold maxLen;omega)).mono ?_;rintro e w' ⟨rfl,hB'⟩;exact ⟨by rw [h],hB.trans (hB'.mono hB.size)⟩
theorem SC (a b:List Int) (aa ab:Option Addr) (ca cb:Nat) (w:World) (hA:Ints w.heap.size w aa a) (hB:Ints w.heap.size w ab b) (ha1:a.length≤ca) (ha2:ca≤maxLen) (hb1:b.length≤cb) (hb2:cb≤maxLen) :
 Calls Tryz.prog 106 #[.slice aa a.length ca,.slice ab b.length cb] w fun e w'=>Below w.heap.size w w'∧∃ er is val x,Tm.dQ [(a,b)] er is val∧e = .returned (.tuple #[.slice x val.length val.length,.bool is,.int .i64 er])∧gu w'.heap.size w' x val:=by
 have hBl:Below w.heap.size w (w.alloc (.cells #[.slice aa a.length ca,.slice ab b.length cb] 40)):=(Below.refl _ w).alloc (Nat.le_refl _) _;have blk:(w.alloc (.cells #[.slice aa a.length ca,.slice ab b.length cb] 40)).heap[w.heap.size]? = some (.cells #[.slice aa a.length ca,.slice ab b.length cb] 40):=World.alloc_heap_new w _;have hR:aJ (w.alloc (.cells #[.slice aa a.length ca,.slice ab b.length cb] 40)).heap.size (w.alloc (.cells #[.slice aa a.length ca,.slice ab b.length cb] 40)) (some ⟨w.heap.size,0,none⟩) [(a,b)]:=by
  intro k hk;obtain rfl:k = 0:=by simp at hk;omega
  exact ⟨w.heap.size,0,rfl,by simp,aa,ca,ab,cb,(aM blk 0).trans rfl,(aM blk 1).trans rfl,(hA.below hBl).mono hBl.size,(hB.below hBl).mono hBl.size,ha1,ha2,hb1,hb2⟩
 have hM:=hid (Sw [(a,b)] (by simp) (some ⟨w.heap.size,0,none⟩) 1 _ hR);have HB:=hid hBl;clear hR blk hA hB hBl;go_enter Tryz.func106,Tryz.ntmps106;go_wp2_with fail;refine hM.out.mono ?_;rintro e w2 ⟨hB2,abQ⟩;obtain ⟨er,is,val,x,hs,rfl,hS⟩:=abQ.says;have Hs:=hid hs;have HS:=hid hS;clear hM abQ hs hS;go_wp2;go_ret3
 exact ⟨HB.out.trans (hB2.mono HB.out.size),er,is,val,x,Hs.out,rfl,HS.out⟩
theorem Wb.split {x y r s:List Int} (hx:Tm.run x 1 = x.length) (hy:Tm.run y 1 = y.length) (h:x++r = y++s):x = y∧r = s:=by
 have h1:=Tm.kF x r 1 (by omega);have h2:=Tm.kF y s 1 (by omega);rw [h,h2,hx,hy] at h1;exact List.append_inj h h1.symm
theorem Tryz.mH:(Tryz.prog.info? 40).map (fun i=>(i.zero,i.size,i.bytes)) = some (some (.agg #[.slice none 0 0,.slice none 0 0]),2,48):=by kernel_rfl
def Tm.lI (rk:List Int) (rs:aH):Bool:=rs.all fun r=>Tm.bg rk r.1 r.2
def Tm.dD (rk:List Int) (rs:aH):Int:=if Tm.aZ rk = 0 then Tm.aO rs else Tm.aZ rk
def Tm.dJ (rk:List Int) (rs:aH):Bool:=if Tm.dD rk rs = 0 then Tm.lI rk rs else false
theorem Tm.Ef {rs:aH} (h:Tm.firstRule rs = 0):∀ k,k < rs.length→Tm.dI (rs[k]?.getD ([],[])).1 (rs[k]?.getD ([],[])).2 = 0:=by
 induction rs with
 | nil=>intro k hk;simp at hk
 | cons r l ih =>
  rw [Tm.firstRule] at h;by_cases h1:Tm.dI r.1 r.2 = 0
  ·rw [if_pos h1] at h
   intro k hk;cases k with
   | zero=>simpa using h1
   | succ k=>simpa using ih h k (by simpa using hk)
  ·rw [if_neg h1] at h;exact absurd h h1
theorem Tm.di {rs:aH} (h:Tm.aO rs = 0):rs.length≤8∧∀ k,k < rs.length→Tm.dI (rs[k]?.getD ([],[])).1 (rs[k]?.getD ([],[])).2 = 0:=by
 unfold Tm.aO at h;by_cases h8:8 < rs.length
 ·rw [if_pos h8] at h;omega
 ·rw [if_neg h8] at h;exact ⟨by omega,Tm.Ef h⟩
theorem Tm.bI {L R:List Int} (h:Tm.dI L R = 0):Tm.err L = 0∧Tm.err R = 0∧L.any aV = false∧R.any aV = false∧(0:Int)≤L[0]?.getD 0∧R.any (eu L) = false:=by
 unfold Tm.dI at h;by_cases h1:Tm.err L = 0
 ·rw [if_pos h1] at h
  by_cases h2:Tm.err R = 0
  ·rw [if_pos h2] at h
   cases h3:L.any aV with
   | true=>rw [h3,if_pos rfl] at h;omega
   | false =>
    rw [h3,if_neg (by decide)] at h;cases h4:R.any aV with
    | true=>rw [h4,if_pos rfl] at h;omega
    | false =>
     rw [h4,if_neg (by decide)] at h;by_cases h5:L[0]?.getD 0 < 0
     ·rw [if_pos h5] at h;omega
     ·rw [if_neg h5] at h
      cases h6:R.any (eu L) with
      | true=>rw [h6,if_pos rfl] at h;omega
      | false=>exact ⟨h1,h2,rfl,rfl,by omega,rfl⟩
  ·rw [if_neg h2] at h;exact absurd h h2
 ·rw [if_neg h1] at h;exact absurd h h1
theorem Cq {rk:List Int} {rs:aH} {k:Nat} (hk:k < rs.length) (h:Tm.lI rk (rs.take k) = true):Tm.lI rk (rs.take (k+1)) = Tm.bg rk (rs[k]?.getD ([],[])).1 (rs[k]?.getD ([],[])).2:=by
 unfold Tm.lI at *;rw [List.take_add_one,List.all_append,h];simp [hk]
theorem Gc {rk:List Int} {rs:aH} {k:Nat} (hk:k < rs.length) (h:Tm.bg rk (rs[k]?.getD ([],[])).1 (rs[k]?.getD ([],[])).2 = false):Tm.lI rk rs = false:=by
 rw [Bool.eq_false_iff];intro e;unfold Tm.lI at e;rw [List.all_eq_true] at e;have:=e rs[k] (List.getElem_mem hk)
 simp only [hk,List.getElem?_eq_getElem,Option.getD_some] at h;rw [h] at this;cases this
theorem Eg (rk:List Int) (rs:aH) (ar a:Option Addr) (cr cap:Nat) (w:World) (hR:Ints w.heap.size w ar rk) (hI:aJ w.heap.size w a rs) :
 Calls Tryz.prog 58 #[.slice ar rk.length cr,.slice a rs.length cap] w fun e w'=>e = .returned (.tuple #[.bool (Tm.dJ rk rs),.int .i64 (Tm.dD rk rs)])∧Below w.heap.size w w':=by
 have C1:=mI rk ar cr w hR;have C2:=gL rs a cap w hI;by_cases h1:Tm.aZ rk = 0
 ·rw [h1] at C1
  have he:Tm.dD rk rs = Tm.aO rs:=by unfold Tm.dD;rw [if_pos h1]
  by_cases h2:Tm.aO rs = 0
  ·rw [h2] at C2
   have hv:Tm.dJ rk rs = Tm.lI rk rs:=by unfold Tm.dJ;rw [he,if_pos h2]
   rw [hv,he,h2];obtain ⟨h8,hall⟩:=Tm.di h2;have h8':(rs.length:Int)≤8:=by omega
   have HA:=hid (fun W (hW:Below w.heap.size w W) k (hk:k < rs.length) aL aR cL cR hL hR2 h3 h4 h5 h6=>mJ rk (rs[k]?.getD ([],[])).1 (rs[k]?.getD ([],[])).2 ar aL aR cr cL cR W ((hR.below hW).mono hW.size) hL hR2 h3 h4 h5 h6);have HE:=hid (fun k (hk:k < rs.length)=>Tm.gz h1 (Tm.bI (hall k hk)).1 (Tm.bI (hall k hk)).2.1);clear he hv h1 h2 hall hR h8;go_enter Tryz.func58,Tryz.ntmps58;go_wp2_with fail;refine C1.mono ?_;rintro e w ⟨rfl,rfl⟩;go_wp2_with fail;refine C2.mono ?_;rintro e w1 ⟨rfl,b1⟩;go_wp2_with fail;go_loopw [24] (fun v wr=>∃ k:Nat,k≤rs.length∧v = .int .i64 (k:Int)∧Hid (Tm.lI rk (rs.take k) = true)∧Below w.heap.size w wr) (fun v _=>rs.length - (intOf v).toNat)
   case atStart=>exact ⟨0,Nat.zero_le _,rfl,hid rfl,b1⟩
   case round =>
    obtain ⟨k,hk,rfl,hst,hB⟩:=hrel;by_cases hlt:k < rs.length
    ·have hlt':(k:Int) < (rs.length:Int):=by omega
     obtain ⟨b,off,rfl,hb,aL,cL,aR,cR,g1,g2,g3,g4,g5,g6,g7,g8⟩:=(hI.below hB) k hlt;have hs1:=hid (Cq hlt hst.out);have hs2:=hid (fun h=>Gc (rk:=rk) hlt h);have he:=HE.out k hlt;have hBa:Below wr.heap.size wr (wr.alloc (.cells #[.slice aL (rs[k]?.getD ([],[])).1.length cL,.slice aR (rs[k]?.getD ([],[])).2.length cR] 54)):=(Below.refl _ wr).alloc (Nat.le_refl _) _;have hBw:=hB.trans (hBa.mono hB.size);have hC:=hid (HA.out _ hBw k hlt aL aR cL cR (((g3.mono hB.size).below hBa).mono hBa.size) (((g4.mono hB.size).below hBa).mono hBa.size) g5 g6 g7 g8);rw [he] at hC;generalize (rs[k]?.getD ([],[])).1 = L at *;generalize (rs[k]?.getD ([],[])).2 = R at *;clear he g3 g4 g5 g6 g7 g8;cases hq:Tm.bg rk L R with
     | true =>
      rw [hq] at hC hs1;clear hq hs2;go_wp2_with (first
       | (go_at_call 59;refine hC.out.mono ?_;clear hC;rintro e w2 ⟨rfl,b2⟩))
      go_roundw
      case rel=>exact ⟨k+1,by omega,by go_num,hid hs1.out,hBw.trans (b2.mono hBw.size)⟩
      case measure=>simp [intOf];omega
     | false =>
      have hno:=hid (hs2.out hq);rw [hq] at hC;clear hq hs1 hs2;go_wp2_with (first
       | (go_at_call 59;refine hC.out.mono ?_;clear hC;rintro e w2 ⟨rfl,b2⟩))
      go_ret2
      exact ⟨by rw [hno.out];rfl,hBw.trans (b2.mono hBw.size)⟩
    ·obtain rfl:k = rs.length:=by omega
     rw [List.take_length] at hst;go_wp2;go_ret2
     exact ⟨by rw [hst.out];rfl,hB⟩
  ·have hv:Tm.dJ rk rs = false:=by unfold Tm.dJ;rw [he,if_neg h2]
   have hn:(Tm.aO rs != 0) = true:=by simpa using h2
   rw [hv,he];clear h1 h2 he hv hR hI;generalize Tm.aO rs = q at *;go_enter Tryz.func58,Tryz.ntmps58;go_wp2_with fail;refine C1.mono ?_;rintro e w ⟨rfl,rfl⟩;go_wp2_with fail;refine C2.mono ?_;rintro e w1 ⟨rfl,b1⟩;go_wp2;go_ret2
   exact ⟨rfl,b1⟩
 ·have he:Tm.dD rk rs = Tm.aZ rk:=by unfold Tm.dD;rw [if_neg h1]
  have hv:Tm.dJ rk rs = false:=by unfold Tm.dJ;rw [he,if_neg h1]
  have hn:(Tm.aZ rk != 0) = true:=by simpa using h1
  rw [hv,he];clear h1 he hv hR hI C2;generalize Tm.aZ rk = q at *;go_enter Tryz.func58,Tryz.ntmps58;go_wp2_with fail;refine C1.mono ?_;rintro e w ⟨rfl,rfl⟩;go_wp2;go_ret2
  exact ⟨rfl,Below.refl _ _⟩
def Tm.kI (ss:List (List Int)) (t:List Int) (k:Int) (r:List Int):Int:=if Tm.bf ss r = 0 then Tm.fZ t k (Tm.bJ ss r) else Tm.bf ss r
def Tm.kJ (ss:List (List Int)) (t:List Int) (k:Int) (r:List Int):List Int:=if Tm.bf ss r = 0 then Tm.dX t k (Tm.bJ ss r) else []
theorem Ik (ss:List (List Int)) (t r:List Int) (k:Int) (aS at' ar:Option Addr) (cs ct cr:Nat) (w:World) (hS:gu w.heap.size w aS ss) (hT:Ints w.heap.size w at' t) (hR:Ints w.heap.size w ar r) (h1:t.length≤ct) (h2:ct≤maxLen) :
 Calls Tryz.prog 52 #[.slice at' t.length ct,.int .i64 k,.slice aS ss.length cs,.slice ar r.length cr] w fun e w'=>∃ v,e = .returned (.tuple #[v,.int .i64 (Tm.kI ss t k r)])∧New w.heap.size w' v (Tm.kJ ss t k r)∧Below w.heap.size w w':=by
 have C1:=BK ss r aS ar cs cr w hS hR;by_cases he:Tm.bf ss r = 0
 ·have e1:Tm.kI ss t k r = Tm.fZ t k (Tm.bJ ss r):=by unfold Tm.kI;rw [if_pos he]
  have e2:Tm.kJ ss t k r = Tm.dX t k (Tm.bJ ss r):=by unfold Tm.kJ;rw [if_pos he]
  rw [e1,e2];rw [he] at C1;clear e1 e2 he hS hR;generalize Tm.bJ ss r = u at *;go_enter Tryz.func52,Tryz.ntmps52;go_wp2_with fail;refine C1.mono ?_;rintro e w1 ⟨v1,rfl,hN1,b1⟩;obtain ⟨x1,c1,rfl,hI1,_⟩:=New.ints hN1;have C2:=Cn t u at' x1 ct c1 k w1 ((hT.below b1).mono b1.size) hI1 h1 h2;clear C1 hN1 hI1;go_wp2_with fail;refine C2.mono ?_;rintro e w2 ⟨v2,rfl,eH,b2⟩;clear C2;go_wp2;go_ret2
  exact ⟨_,rfl,eH.mono b1.size,b1.trans (b2.mono b1.size)⟩
 ·have e1:Tm.kI ss t k r = Tm.bf ss r:=by unfold Tm.kI;rw [if_neg he]
  have e2:Tm.kJ ss t k r = []:=by unfold Tm.kJ;rw [if_neg he]
  have hn:(Tm.bf ss r != 0) = true:=by simpa using he
  rw [e1,e2];clear e1 e2 he hS hR hT h1 h2;generalize Tm.bf ss r = q at *;go_enter Tryz.func52,Tryz.ntmps52;go_wp2_with fail;refine C1.mono ?_;rintro e w1 ⟨v1,rfl,hN1,b1⟩;obtain ⟨x1,c1,rfl,hI1,_⟩:=New.ints hN1;clear C1 hN1 hI1;go_wp2;go_ret2
  exact ⟨_,rfl,New.nil _ _,b1⟩
abbrev jh:=List (Nat × Nat × List Int)
def fI (base:Nat) (W:World) (v:Value) (iN:jh):Prop :=
 ∃ us:List Value,W.ownsRow base 53 3 v iN.length us∧∀ j,j < iN.length→∃ u,us[j * 3]? = some (.int .i64 ((iN[j]?.getD (0,0,[])).1:Int))∧us[j * 3+1]? = some (.int .i64 ((iN[j]?.getD (0,0,[])).2.1:Int))∧us[j * 3+2]? = some u∧New base W u (iN[j]?.getD (0,0,[])).2.2
theorem fI.nil (base:Nat) (W:World):fI base W (.slice none 0 0) []:=⟨[],World.ownsRow_nil _ _ _ _,fun j hj=>by simp at hj⟩
theorem New.SE {base:Nat} {W:World} {u v:Value} {t:List Int} {n:Nat} {us:List Value} (hu:New base W u t) (hv:W.ownsRow base 53 3 v n us):u.ownBlock = none∨u.ownBlock≠v.ownBlock:=by
 rcases hu.2 with ⟨rfl,_⟩ | ⟨g,cap,cur,rfl,hb,hg,r⟩
 ·exact .inl rfl
 ·right
  rcases hv.2 with ⟨rfl,_⟩ | ⟨g',cap',cur',rfl,hb',hg',r'⟩
  ·intro e;cases e
  ·intro e
   simp only [Value.ownBlock,Option.some.injEq] at e;subst e;rw [hg] at hg';simp at hg'
theorem fI.below {base:Nat} {W W':World} {v:Value} {iN:jh} (h:fI base W v iN) (hB:Below W.heap.size W W'):fI base W' v iN:=by
 obtain ⟨us,h1,h2⟩:=h;refine ⟨us,World.ownsRow.kept h1 (dx hB) (by cases h:v.ownBlock with | none=>exact .inl rfl | some k=>exact .inr (by simp)),fun j hj=>?_⟩;obtain ⟨u,a,b,c,d⟩:=h2 j hj;exact ⟨u,a,b,c,New.below d hB⟩
theorem Tryz.SF:(Tryz.prog.info? 53).map (fun i=>(i.zero,i.size,i.bytes)) = some (some (.agg #[.int .i64 0,.int .i64 0,.slice none 0 0]),3,40):=by kernel_rfl
def Tm.rF (rs:aH) (t:List Int) (a k:Nat):Bool:=Tm.rM (rs[k]?.getD ([],[])).1 (Tm.part t a)
def Tm.je (rs:aH) (t:List Int) (a k:Nat):Int:=Tm.kI (Tm.lJ (rs[k]?.getD ([],[])).1 (Tm.part t a)) t (a:Int) (rs[k]?.getD ([],[])).2
def Tm.oU (rs:aH) (t:List Int) (a k:Nat):List Int:=Tm.kJ (Tm.lJ (rs[k]?.getD ([],[])).1 (Tm.part t a)) t (a:Int) (rs[k]?.getD ([],[])).2
def Tm.rowE (rs:aH) (t:List Int) (a:Nat):Nat→Int
 | 0=>0
 | n+1=>if Tm.rowE rs t a n = 0 then (if Tm.rF rs t a n = true then Tm.je rs t a n else 0) else Tm.rowE rs t a n
def Tm.lK (rs:aH) (t:List Int) (a:Nat):Nat→jh
 | 0=>[]
 | n+1=>Tm.lK rs t a n++(if Tm.rF rs t a n = true then [(n,a,Tm.oU rs t a n)] else [])
def Tm.mf (rs:aH) (t:List Int):Nat→Int
 | 0=>0
 | m+1=>if Tm.mf rs t m = 0 then Tm.rowE rs t m rs.length else Tm.mf rs t m
def Tm.jO (rs:aH) (t:List Int):Nat→jh
 | 0=>[]
 | m+1=>Tm.jO rs t m++Tm.lK rs t m rs.length
def Tm.bn (rs:aH) (t:List Int):Int:=if Tm.aO rs = 0 then (if Tm.err t = 0 then Tm.mf rs t t.length else Tm.err t) else Tm.aO rs
def Tm.bD (rs:aH) (t:List Int):jh:=if Tm.bn rs t = 0 then Tm.jO rs t t.length else []
theorem Tm.LX {rs:aH} {t:List Int} {a n:Nat} (h:Tm.rowE rs t a n≠0):∀ m,n≤m→Tm.rowE rs t a m = Tm.rowE rs t a n:=by
 intro m hm;induction m with
 | zero=>obtain rfl:n = 0:=by omega
         rfl
 | succ m ih =>
  by_cases e:n = m+1
  ·rw [e]
  ·rw [Tm.rowE,if_neg (by rw [ih (by omega)];exact h),ih (by omega)]
theorem Tm.LY {rs:aH} {t:List Int} {n:Nat} (h:Tm.mf rs t n≠0):∀ m,n≤m→Tm.mf rs t m = Tm.mf rs t n:=by
 intro m hm;induction m with
 | zero=>obtain rfl:n = 0:=by omega
         rfl
 | succ m ih =>
  by_cases e:n = m+1
  ·rw [e]
  ·rw [Tm.mf,if_neg (by rw [ih (by omega)];exact h),ih (by omega)]
theorem Tm.Gf {rs:aH} {t:List Int} {a n:Nat} (h0:Tm.mf rs t a = 0) (hr:Tm.rowE rs t a n = 0) (ha:a < t.length) (hn:n < rs.length) (hb:Tm.rF rs t a n = true) (he:Tm.je rs t a n≠0) :
 Tm.mf rs t t.length = Tm.je rs t a n:=by
 have e1:Tm.rowE rs t a (n+1) = Tm.je rs t a n:=by rw [Tm.rowE,if_pos hr,if_pos hb]
 have e2:Tm.rowE rs t a rs.length = Tm.je rs t a n:=by rw [Tm.LX (by rw [e1];exact he) rs.length (by omega),e1]
 have e3:Tm.mf rs t (a+1) = Tm.je rs t a n:=by rw [Tm.mf,if_pos h0,e2]
 rw [Tm.LY (by rw [e3];exact he) t.length (by omega),e3]
theorem Tm.Gg {rs:aH} {t:List Int} {a:Nat} (h0:Tm.mf rs t a = 0) (hr:Tm.rowE rs t a rs.length = 0):Tm.mf rs t (a+1) = 0:=by rw [Tm.mf,if_pos h0,hr]
theorem Tm.OM {rs:aH} {t:List Int} {a n:Nat} (hr:Tm.rowE rs t a n = 0) (hb:Tm.rF rs t a n = false):Tm.rowE rs t a (n+1) = 0:=by rw [Tm.rowE,if_pos hr,hb,if_neg (by decide)]
theorem Tm.JZ {rs:aH} {t:List Int} {a n:Nat} (hr:Tm.rowE rs t a n = 0) (hb:Tm.rF rs t a n = true) (he:Tm.je rs t a n = 0):Tm.rowE rs t a (n+1) = 0:=by rw [Tm.rowE,if_pos hr,if_pos hb,he]
theorem Tm.OO {rs:aH} {t:List Int} {a n:Nat} (hb:Tm.rF rs t a n = false):Tm.lK rs t a (n+1) = Tm.lK rs t a n:=by rw [Tm.lK,hb,if_neg (by decide),List.append_nil]
theorem Tm.J2 {rs:aH} {t:List Int} {a n:Nat} (hb:Tm.rF rs t a n = true):Tm.lK rs t a (n+1) = Tm.lK rs t a n++[(n,a,Tm.oU rs t a n)]:=by rw [Tm.lK,if_pos hb]
theorem Tm.Il (rs:aH) (t:List Int) (a:Nat):∀ n,(Tm.lK rs t a n).length≤n:=by
 intro n;induction n with
 | zero=>simp [Tm.lK]
 | succ n ih =>
  rw [Tm.lK,List.length_append];split
  ·simp only [List.length_cons,List.length_nil];omega
  ·simp only [List.length_nil];omega
theorem Tm.Im (rs:aH) (t:List Int):∀ m,(Tm.jO rs t m).length≤m * rs.length:=by
 intro m;induction m with
 | zero=>simp [Tm.jO]
 | succ m ih =>
  rw [Tm.jO,List.length_append,Nat.succ_mul];have:=Tm.Il rs t m rs.length
  omega
theorem Tm.qG {t u:List Int} {a:Nat}:u.length≤(Tm.put t a u).length:=by unfold Tm.put;simp only [List.length_append];omega
theorem rO {t:List Int} {a:Nat} (ha:a < t.length):eZ (a:Int) 0 ((t.length:Int) - 1) = true:=by rw [mX];omega
theorem Tm.SG {L R t:List Int} {a:Nat} {m:nT} (hL:Tm.err L = 0) (hR:Tm.err R = 0) (ht:Tm.err t = 0) (ha:a < t.length) (hf:Tm.fit L (Tm.part t a) = some m) :
 Tm.kI (Tm.gp m 8) t (a:Int) R = (if 30 < (Tm.put t a (Tm.applied (Tm.gp m 8) R)).length then 2 else 0) ∧
  Tm.kJ (Tm.gp m 8) t (a:Int) R = (if 30 < (Tm.put t a (Tm.applied (Tm.gp m 8) R)).length then [] else Tm.put t a (Tm.applied (Tm.gp m 8) R)):=by
 have hs:=Tm.qH hL (Tm.dC ht ha) hf;obtain ⟨e1,e2⟩:=Tm.J3 hs hR;have hle:=Tm.qG (t:=t) (u:=Tm.applied (Tm.gp m 8) R) (a:=a);by_cases jD:30 < (Tm.applied (Tm.gp m 8) R).length
 ·rw [if_pos jD] at e1
  have h2:¬ (2:Int) = 0:=by decide
  refine ⟨?_,?_⟩
  ·unfold Tm.kI;rw [e1,if_neg h2,if_pos (by omega)]
  ·unfold Tm.kJ;rw [e1,if_neg h2,if_pos (by omega)]
 ·rw [if_neg jD] at e1 e2
  have hu:=Tm.kQ (Terms.of hs) hR (by omega);unfold Tm.kI Tm.kJ;rw [e1,if_pos rfl,if_pos rfl,e2,Tm.BL ht hu (rO ha),Tm.Gh ht hu (rO ha)];exact ⟨rfl,rfl⟩
theorem Tm.J4 {rs:aH} {t:List Int} {a k:Nat} (hL:Tm.err (rs[k]?.getD ([],[])).1 = 0) (ht:Tm.err t = 0) (ha:a < t.length):Tm.rF rs t a k = (Tm.fit (rs[k]?.getD ([],[])).1 (Tm.part t a)).isSome:=by
 unfold Tm.rF Tm.rM;rw [if_pos (Tm.ru hL (Tm.dC ht ha))]
theorem Tm.OP {rs:aH} {t:List Int} {a k:Nat} {m:nT} (hL:Tm.err (rs[k]?.getD ([],[])).1 = 0) (hR:Tm.err (rs[k]?.getD ([],[])).2 = 0) (ht:Tm.err t = 0) (ha:a < t.length) (hf:Tm.fit (rs[k]?.getD ([],[])).1 (Tm.part t a) = some m) :
 Tm.je rs t a k = (if 30 < (Tm.put t a (Tm.applied (Tm.gp m 8) (rs[k]?.getD ([],[])).2)).length then 2 else 0) ∧
  Tm.oU rs t a k = (if 30 < (Tm.put t a (Tm.applied (Tm.gp m 8) (rs[k]?.getD ([],[])).2)).length then [] else Tm.put t a (Tm.applied (Tm.gp m 8) (rs[k]?.getD ([],[])).2)):=by
 unfold Tm.je Tm.oU;rw [(Tm.OQ (Tm.ru hL (Tm.dC ht ha)) hf).2];exact Tm.SG hL hR ht ha hf
theorem nV {W:World} {base:Nat} {e:TypeId} {size:Nat} {v:Value} {n:Nat} {us:List Value} (h:W.ownsRow base e size v n us) {row:Option Nat} (hr:∀ k,row = some k→∀ cs p,W.heap[k]?≠some (.cells cs e p)):v.ownBlock = none∨v.ownBlock≠row:=by
 rcases h.2 with ⟨rfl,_⟩ | ⟨g,cap,cur,rfl,_,hgb,_⟩
 ·exact .inl rfl
 ·refine .inr fun e'=>?_
  exact hr g (by rw [← e'];rfl) _ _ hgb
theorem fI.grown {base:Nat} {W W':World} {v:Value} {iN:jh} {row:Option Nat} (h:fI base W v iN) (hg:W.grownBy W' row) (hr:∀ k,row = some k→∀ cs p,W.heap[k]?≠some (.cells cs 53 p)∧W.heap[k]?≠some (.cells cs 3 p)):fI base W' v iN:=by
 obtain ⟨us,h1,h2⟩:=h;refine ⟨us,h1.kept hg (nV h1 fun k e cs p=>(hr k e cs p).1),fun j hj=>?_⟩;obtain ⟨u,a,b,c,d⟩:=h2 j hj;exact ⟨u,a,b,c,World.ownsRow.kept d hg (nV d fun k e cs p=>(hr k e cs p).2)⟩
theorem nZ {W:World} {B:Nat} {t e:TypeId} {x:Value} (h:Boxed W B t x) (hte:t≠e) (cs:Array Value) (p:Nat × Nat):W.heap[B]?≠some (.cells cs e p):=by
 rw [show W.heap[B]? = _ from h];intro h';simp only [Option.some.injEq,Obj.cells.injEq] at h';exact hte h'.2.1
theorem fI.set {base:Nat} {W:World} {v:Value} {iN:jh} (h:fI base W v iN) {B:Nat} {t:TypeId} {x:Value} (hb:Boxed W B t x) (h1:t≠53) (h2:t≠3) (y:Value):fI base (W.setCell ⟨B,0,none⟩ y) v iN :=
 h.grown (grownBy_setCell' W B y) fun k e cs p=>by
  cases e;exact ⟨nZ hb h1 cs p,nZ hb h2 cs p⟩
theorem fI.other {base:Nat} {W W':World} {v:Value} {iN:jh} {row:Option Nat} (h:fI base W v iN) (hg:W.grownBy W' row) (hr:∀ r,row = some r→∃ o:Obj,W.heap[r]? = some o∧o.isCells = false):fI base W' v iN :=
 h.grown hg fun k e cs p=>by
  obtain ⟨o,ho,hc⟩:=hr k e;rw [ho];refine ⟨?_,?_⟩ <;> (intro h';simp only [Option.some.injEq] at h';subst h';simp [Obj.isCells] at hc)
theorem fI.mono {base base':Nat} {W:World} {v:Value} {iN:jh} (h:fI base W v iN) (hb:base'≤base):fI base' W v iN:=by
 obtain ⟨us,h1,h2⟩:=h;refine ⟨us,⟨h1.1,h1.2.elim .inl (fun ⟨g,cap,cur,e1,e2,e3⟩=>.inr ⟨g,cap,cur,e1,Nat.le_trans hb e2,e3⟩)⟩,fun j hj=>?_⟩;obtain ⟨u,a,b,c,d⟩:=h2 j hj;exact ⟨u,a,b,c,d.mono hb⟩
theorem fI.block {base:Nat} {W:World} {v:Value} {iN:jh} (h:fI base W v iN) {k:Nat} (hk:v.ownBlock = some k):base≤k∧∃ cs p,W.heap[k]? = some (.cells cs 53 p):=by
 obtain ⟨us,h1,_⟩:=h;rcases h1.2 with ⟨rfl,_⟩ | ⟨g,cap,cur,rfl,hb,hgb,_⟩
 ·cases hk
 ·obtain rfl:g = k:=by simpa [Value.ownBlock] using hk
  exact ⟨hb,_,_,hgb⟩
theorem fI.slice {base:Nat} {W:World} {v:Value} {iN:jh} (h:fI base W v iN):∃ a cap,v = .slice a iN.length cap:=by
 obtain ⟨us,h1,_⟩:=h;rcases h1.2 with ⟨rfl,h0⟩ | ⟨g,cap,cur,rfl,_⟩
 ·exact ⟨none,0,by rw [h0]⟩
 ·exact ⟨_,_,rfl⟩
theorem Tryz.Gi:Tryz.prog.underlying 43 = some (.slice 53):=by kernel_rfl
theorem CK {F:Fence} {n:Nat} {ops:Array Oper} {rest:List Oper} {o:Oper} {a:Act} {Q:Exit→Act→World→Prop} (w:World) (hgd:o.guard = none) (s x:Operand)
 (ho:o.op = .call { callee:=.builtin .append,args:=#[s,x],argTypes:=#[43,43] }) (base:Nat) (v:Value) (iN:jh) (hs:a.eval s = v) (hN:fI base w v iN)
 (u:Value) (r p:Nat) (t:List Int) (B:Nat) (hx:a.eval x = .slice (some ⟨B,0,none⟩) 1 1) (hB0:w.cell? ⟨B,0,none⟩ = some (.int .i64 (r:Int))) (hB1:w.cell? ⟨B,1,none⟩ = some (.int .i64 (p:Int))) (hB2:w.cell? ⟨B,2,none⟩ = some u) (hu:New base w u t) (hlen:iN.length≤1000000) (hbase:base≤w.heap.size)
 (h:∀ v' w',fI base w' v' (iN++[(r,p,t)])→w.grownBy w' v.ownBlock→(∃ g cap,v' = .slice (some ⟨g,0,none⟩) (iN.length+1) cap)→wpListIn F n Tryz.prog ops Q rest (a.put o.dst v') w'):wpListIn F n Tryz.prog ops Q (o :: rest) a w:=by
 obtain ⟨i0,hi,hz0,hz1,hz2⟩:=info_parts Tryz.SF;obtain ⟨us,h1,h2⟩:=hN;have zi:us.length = iN.length * 3:=h1.1;refine wpListIn_append_own w hgd s x 43 ho base 53 i0 (.agg #[.int .i64 0,.int .i64 0,.slice none 0 0]) 3 40 Tryz.Gi hi hz0 hz1 hz2 rfl (by decide) v iN.length us hs h1 ⟨B,0,none⟩ 1 1 [.int .i64 (r:Int),.int .i64 (p:Int),u] hx (by simp)
  (by intro j z hj
      match j,hj with
      | 0,hj=>simp at hj;subst hj;rw [Go.WideShapes.add_plain];simpa using hB0
      | 1,hj=>simp at hj;subst hj;rw [Go.WideShapes.add_plain];simpa using hB1
      | 2,hj=>simp at hj;subst hj;rw [Go.WideShapes.add_plain];simpa using hB2)
  (by intro z hz;simp at hz;obtain ⟨_,_,rfl,_⟩:=New.ints hu;rcases hz with rfl | rfl | rfl <;> rfl) (by unfold maxLen;omega) (by omega) hbase ?_
 intro v' w' hown hg _;have hkeep:∀ (u':Value) (t':List Int),New base w u' t'→New base w' u' t':=fun u' t' hN'=>World.ownsRow.kept hN' hg (New.SE hN' h1)
 refine h v' w' ⟨us++[.int .i64 (r:Int),.int .i64 (p:Int),u],by simpa using hown,fun j hj=>?_⟩ hg (ownsRow_succ hown);by_cases hjl:j < iN.length
 ·obtain ⟨u',q1,q2,q3,hN'⟩:=h2 j hjl
  rw [List.getElem?_append_left hjl,List.getElem?_append_left (by omega),List.getElem?_append_left (by omega),List.getElem?_append_left (by omega)];exact ⟨u',q1,q2,q3,hkeep u' _ hN'⟩
 ·have Eh:j = iN.length:=by simp at hj;omega
  subst Eh;rw [List.getElem?_append_right (Nat.le_refl _),List.getElem?_append_right (by omega),List.getElem?_append_right (by omega),List.getElem?_append_right (by omega),zi];refine ⟨u,by simp,by simp,by simp,?_⟩;simpa using hkeep u t hu
def fO (base:Nat) (W:World) (v:Value) (ps:ah):Prop :=
 ∃ us:List Value,W.ownsRow base 40 2 v ps.length us∧∀ j,j < ps.length→∃ u u',us[j * 2]? = some u∧us[j * 2+1]? = some u'∧New base W u (ps[j]?.getD ([],[])).1∧New base W u' (ps[j]?.getD ([],[])).2
theorem fO.nil (base:Nat) (W:World):fO base W (.slice none 0 0) []:=⟨[],World.ownsRow_nil _ _ _ _,fun j hj=>by simp at hj⟩
theorem New.SH {base:Nat} {W:World} {u v:Value} {t:List Int} {n:Nat} {us:List Value} (hu:New base W u t) (hv:W.ownsRow base 40 2 v n us):u.ownBlock = none∨u.ownBlock≠v.ownBlock:=by
 rcases hu.2 with ⟨rfl,_⟩ | ⟨g,cap,cur,rfl,hb,hg,r⟩
 ·exact .inl rfl
 ·right
  rcases hv.2 with ⟨rfl,_⟩ | ⟨g',cap',cur',rfl,hb',hg',r'⟩
  ·intro e;cases e
  ·intro e
   simp only [Value.ownBlock,Option.some.injEq] at e;subst e;rw [hg] at hg';simp at hg'
theorem fO.below {base:Nat} {W W':World} {v:Value} {ps:ah} (h:fO base W v ps) (hB:Below W.heap.size W W'):fO base W' v ps:=by
 obtain ⟨us,h1,h2⟩:=h;refine ⟨us,World.ownsRow.kept h1 (dx hB) (by cases h:v.ownBlock with | none=>exact .inl rfl | some k=>exact .inr (by simp)),fun j hj=>?_⟩;obtain ⟨u,u',a,b,c,d⟩:=h2 j hj;exact ⟨u,u',a,b,New.below c hB,New.below d hB⟩
theorem fO.grown {base:Nat} {W W':World} {v:Value} {ps:ah} {row:Option Nat} (h:fO base W v ps) (hg:W.grownBy W' row) (hr:∀ k,row = some k→∀ cs p,W.heap[k]?≠some (.cells cs 40 p)∧W.heap[k]?≠some (.cells cs 3 p)):fO base W' v ps:=by
 obtain ⟨us,h1,h2⟩:=h;refine ⟨us,h1.kept hg (nV h1 fun k e cs p=>(hr k e cs p).1),fun j hj=>?_⟩;obtain ⟨u,u',a,b,c,d⟩:=h2 j hj;exact ⟨u,u',a,b,World.ownsRow.kept c hg (nV c fun k e cs p=>(hr k e cs p).2),World.ownsRow.kept d hg (nV d fun k e cs p=>(hr k e cs p).2)⟩
theorem fO.set {base:Nat} {W:World} {v:Value} {ps:ah} (h:fO base W v ps) {B:Nat} {t:TypeId} {x:Value} (hb:Boxed W B t x) (h1:t≠40) (h2:t≠3) (y:Value):fO base (W.setCell ⟨B,0,none⟩ y) v ps :=
 h.grown (grownBy_setCell' W B y) fun k e cs p=>by
  cases e;exact ⟨nZ hb h1 cs p,nZ hb h2 cs p⟩
theorem fO.other {base:Nat} {W W':World} {v:Value} {ps:ah} {row:Option Nat} (h:fO base W v ps) (hg:W.grownBy W' row) (hr:∀ r,row = some r→∃ o:Obj,W.heap[r]? = some o∧o.isCells = false):fO base W' v ps :=
 h.grown hg fun k e cs p=>by
  obtain ⟨o,ho,hc⟩:=hr k e;rw [ho];refine ⟨?_,?_⟩ <;> (intro h';simp only [Option.some.injEq] at h';subst h';simp [Obj.isCells] at hc)
theorem fO.mono {base base':Nat} {W:World} {v:Value} {ps:ah} (h:fO base W v ps) (hb:base'≤base):fO base' W v ps:=by
 obtain ⟨us,h1,h2⟩:=h;refine ⟨us,⟨h1.1,h1.2.elim .inl (fun ⟨g,cap,cur,e1,e2,e3⟩=>.inr ⟨g,cap,cur,e1,Nat.le_trans hb e2,e3⟩)⟩,fun j hj=>?_⟩;obtain ⟨u,u',a,b,c,d⟩:=h2 j hj;exact ⟨u,u',a,b,c.mono hb,d.mono hb⟩
theorem fO.block {base:Nat} {W:World} {v:Value} {ps:ah} (h:fO base W v ps) {k:Nat} (hk:v.ownBlock = some k):base≤k∧∃ cs p,W.heap[k]? = some (.cells cs 40 p):=by
 obtain ⟨us,h1,_⟩:=h;rcases h1.2 with ⟨rfl,_⟩ | ⟨g,cap,cur,rfl,hb,hgb,_⟩
 ·cases hk
 ·obtain rfl:g = k:=by simpa [Value.ownBlock] using hk
  exact ⟨hb,_,_,hgb⟩
theorem fO.slice {base:Nat} {W:World} {v:Value} {ps:ah} (h:fO base W v ps):∃ a cap,v = .slice a ps.length cap:=by
 obtain ⟨us,h1,_⟩:=h;rcases h1.2 with ⟨rfl,h0⟩ | ⟨g,cap,cur,rfl,_⟩
 ·exact ⟨none,0,by rw [h0]⟩
 ·exact ⟨_,_,rfl⟩
theorem fO.at {base:Nat} {W:World} {v:Value} {ps:ah} (h:fO base W v ps):∃ a cap,v = .slice a ps.length cap∧aJ W.heap.size W a ps∧ps.length≤cap∧cap≤maxLen:=by
 obtain ⟨us,h1,h2⟩:=h;have hl:us.length = ps.length * 2:=h1.1;rcases h1.2 with ⟨rfl,hn⟩ | ⟨g,cap,cur,rfl,hb,hgb,q1,q2,_⟩
 ·refine ⟨none,0,by rw [hn],fun k hk=>by omega,by omega,by omega⟩
 ·refine ⟨_,cap,rfl,fun j hj=>?_,q1,q2⟩
  obtain ⟨u,u',p1,p2,n1,n2⟩:=h2 j hj;obtain ⟨a1,c1,rfl,i1,m1,LZ⟩:=New.ints n1;obtain ⟨a2,c2,rfl,i2,m2,L6⟩:=New.ints n2;have cc:=fun k hk=>World.ownsRow.cellAt h1 k hk
  exact ⟨g,0,rfl,(Array.getElem?_eq_some_iff.1 hgb).1,a1,c1,a2,c2,by rw [Nat.zero_add,cc _ (by omega),p1],by rw [Nat.zero_add,cc _ (by omega),p2],i1,i2,m1,LZ,m2,L6⟩
theorem Tryz.mr:Tryz.prog.underlying 24 = some (.slice 40):=by kernel_rfl
theorem CL {F:Fence} {n:Nat} {ops:Array Oper} {rest:List Oper} {o:Oper} {a:Act} {Q:Exit→Act→World→Prop} (w:World) (hgd:o.guard = none) (s x:Operand)
 (ho:o.op = .call { callee:=.builtin .append,args:=#[s,x],argTypes:=#[24,24] }) (base:Nat) (v:Value) (ps:ah) (hs:a.eval s = v) (hN:fO base w v ps)
 (u u2:Value) (t t2:List Int) (B:Nat) (hx:a.eval x = .slice (some ⟨B,0,none⟩) 1 1) (hB0:w.cell? ⟨B,0,none⟩ = some u) (hB1:w.cell? ⟨B,1,none⟩ = some u2) (hu:New base w u t) (hu2:New base w u2 t2) (hlen:ps.length≤1000000) (hbase:base≤w.heap.size)
 (h:∀ v' w',fO base w' v' (ps++[(t,t2)])→w.grownBy w' v.ownBlock→(∃ g cap,v' = .slice (some ⟨g,0,none⟩) (ps.length+1) cap)→wpListIn F n Tryz.prog ops Q rest (a.put o.dst v') w'):wpListIn F n Tryz.prog ops Q (o :: rest) a w:=by
 obtain ⟨i0,hi,hz0,hz1,hz2⟩:=info_parts Tryz.mH;obtain ⟨us,h1,h2⟩:=hN;have zi:us.length = ps.length * 2:=h1.1;refine wpListIn_append_own w hgd s x 24 ho base 40 i0 (.agg #[.slice none 0 0,.slice none 0 0]) 2 48 Tryz.mr hi hz0 hz1 hz2 rfl (by decide) v ps.length us hs h1 ⟨B,0,none⟩ 1 1 [u,u2] hx (by simp)
  (by intro j z hj
      match j,hj with
      | 0,hj=>simp at hj;subst hj;rw [Go.WideShapes.add_plain];simpa using hB0
      | 1,hj=>simp at hj;subst hj;rw [Go.WideShapes.add_plain];simpa using hB1)
  (by intro z hz;simp at hz;obtain ⟨_,_,rfl,_⟩:=New.ints hu;obtain ⟨_,_,rfl,_⟩:=New.ints hu2;rcases hz with rfl | rfl <;> rfl) (by unfold maxLen;omega) (by omega) hbase ?_
 intro v' w' hown hg _;have hkeep:∀ (u':Value) (t':List Int),New base w u' t'→New base w' u' t':=fun u' t' hN'=>World.ownsRow.kept hN' hg (New.SH hN' h1)
 refine h v' w' ⟨us++[u,u2],by simpa using hown,fun j hj=>?_⟩ hg (ownsRow_succ hown);by_cases hjl:j < ps.length
 ·obtain ⟨y,y',q1,q2,n1,n2⟩:=h2 j hjl
  rw [List.getElem?_append_left hjl,List.getElem?_append_left (by omega),List.getElem?_append_left (by omega)];exact ⟨y,y',q1,q2,hkeep y _ n1,hkeep y' _ n2⟩
 ·have Eh:j = ps.length:=by simp at hj;omega
  subst Eh;rw [List.getElem?_append_right (Nat.le_refl _),List.getElem?_append_right (by omega),List.getElem?_append_right (by omega),zi];refine ⟨u,u2,by simp,by simp,?_,?_⟩
  ·simpa using hkeep u t hu
  ·simpa using hkeep u2 t2 hu2
end Go.Proofs.YtglohanbpjaieaaGreat
namespace Go.Proofs.YtglohanbpjaieaaGreat
open Go.Proofs Go.RowKit Go.Shelf
section
attribute [local go_sem] Oper.semAt_some
theorem Ei (F:Fence) (hF:Pl F) (n:Nat) (a:Option Addr) (len cap:Nat) (w:World) :
 CallsIn F n Tryz.prog 50 #[.slice a len cap] w fun e w'=>e = .returned (.func (.func 70) #[] #[.pointer (some ⟨w.heap.size,0,none⟩)]) ∧
  w' = w.alloc (.cells #[.slice a len cap] 35):=by
 obtain ⟨hro,hfn,hdd⟩:=jf hF;have hf:=hfn _ _ Tryz.func50;clear hF hfn;refine callsIn_of_wp Tryz.func50 rfl hf ?_ hro;simp only [Tryz.ntmps50,List.size_toArray,List.length_cons,List.length_nil,Nat.reduceAdd,Nat.reduceSub,Array.replicate_succ,Array.replicate_zero,List.push_toArray,List.append_toArray,List.nil_append,List.cons_append];gi_wp2
 go_ret;exact ⟨rfl,rfl⟩
def SI (zs:List Int) (i:Nat):Array Value:=#[.int .i64 (i:Int),.int .i64 (Tm.ai zs i:Int)]
def SK (Bt cap:Nat) (a:Option Addr) (zs:List Int) (W:World):Prop:=W.cell? ⟨Bt,0,none⟩ = some (.slice a zs.length cap)∧Ints W.heap.size W a zs
theorem zk (F:Fence) (hF:Pl F) (n Bt cap:Nat) (a:Option Addr) (zs:List Int) (hlen:zs.length≤5000) :
 Ej F n Tryz.prog 70 #[.pointer (some ⟨Bt,0,none⟩)] (SI zs) zs.length (SK Bt cap a zs):=by
 intro l J Jx Jp W hJ hR hY h0;obtain ⟨hro,hfn,hdd⟩:=jf hF;have HE:=hid (fun n p W h2 h3=>yX F hF zs hlen a cap _ p n (Nat.le_refl _) h2 W h3);clear hF;have Dt:=hfn _ _ Tryz.func70;have Li:=hfn _ _ Tryz.func69;obtain ⟨hbt,_⟩:=hR 0 W h0;have hl5:(zs.length:Int)≤5000:=by omega
 have HY:=hid hY;have HR:=hid hR;clear hY hR;refine callsIn_of_wp Tryz.func70 rfl Dt ?_ hro;simp only [Tryz.ntmps70,List.size_toArray,List.length_cons,List.length_nil,Nat.reduceAdd,Nat.reduceSub,Array.replicate_succ,Array.replicate_zero,List.push_toArray,List.append_toArray,List.nil_append,List.cons_append];gi_wp2
 gi_loopw [6] (fun i wr=>∃ m:Nat,m≤zs.length∧i = .int .i64 (m:Int)∧J m wr) (fun i _=>zs.length - (intOf i).toNat)
 case atStart=>exact ⟨0,Nat.zero_le _,rfl,h0⟩
 case round =>
  obtain ⟨m,hm,rfl,hJs⟩:=hrel;obtain ⟨ae7,hI'⟩:=HR.out m wr hJs;by_cases hlt:m < zs.length
  ·have hlt':(m:Int) < (zs.length:Int):=by omega
   have h1':=(HE.out (n - 1) m wr (by omega) hI').mono (R':=fun e W1=>e = .returned (.int .i64 (Tm.ai zs m:Int))∧YieldAt F (n - 1) Tryz.prog l #[.int .i64 (m:Int),.int .i64 (Tm.ai zs m:Int)] W1 fun e W' =>
    (e = .returned (.bool true)∧J (m+1) W')∨(e = .returned (.bool false)∧Jx W')∨∃ ch,e = .panicked ch∧Jp ch W')
    (fun e W1 ⟨he,hB⟩=>⟨he,by
      have XW:=hJ _ _ _ none hJs (dx hB) (fun r e=>by cases e);refine YieldAt.mono (HY.out m W1 XW hlt) fun e W2 h=>?_
      exact h⟩)
   gi_wp2_with (first
    | ((try refine ⟨hdd _,?_⟩);gi_at_call 69;refine h1'.mono ?_;clear h1';rintro e W1 ⟨rfl,fn,tmps,assign,body,hy,hR⟩)
    | ((try refine ⟨hdd _,?_⟩);refine hR.mono ?_;clear hR;rintro e W2 (⟨rfl,hJ2⟩ | ⟨rfl,hx2⟩ | ⟨ch,rfl,hp2⟩)))
   ·exact ⟨⟨m+1,by omega,by go_num,hJ2⟩,by simp [intOf];omega⟩
   ·refine bodyPost_ret (results_none rfl _ _ _) rfl ?_
    exact .inl ⟨⟨_,rfl⟩,.inr hx2⟩
   ·exact ⟨rfl,.inr ⟨ch,rfl,hp2⟩⟩
  ·obtain rfl:m = zs.length:=by omega
   have hlt':¬ (zs.length:Int) < (zs.length:Int):=by omega
   gi_wp2
   go_end0
   exact .inl ⟨⟨_,rfl⟩,.inl hJs⟩
end
end Go.Proofs.YtglohanbpjaieaaGreat
namespace Go.Proofs.YtglohanbpjaieaaGreat
open Go.Proofs Go.RowKit Go.Shelf Go.Maps
theorem oV {fn:Func} {tmps:Array Value} {w:World} {a b B C:Nat} {ad:Option Addr} {n c:Nat} {x:Int} (h:fn.results = #[.cell a 43,.cell b 25]) (ha:tmps.getD a undef = .pointer (some ⟨B,0,none⟩)) (hb:tmps.getD b undef = .pointer (some ⟨C,0,none⟩))
 (hc:w.cell? ⟨B,0,none⟩ = some (.slice ad n c)) (hd:w.cell? ⟨C,0,none⟩ = some (.int .i64 x)):(results fn tmps).run Tryz.prog w = .ok (.tuple #[.slice ad n c,.int .i64 x]) w:=by
 have ha':tmps[a]?.getD undef = .pointer (some ⟨B,0,none⟩):=by rw [← ha];simp
 have hb':tmps[b]?.getD undef = .pointer (some ⟨C,0,none⟩):=by rw [← hb];simp
 simp only [results,h];simp [go_sem,ha',hb',hc,hd]
structure zl (w2:World) (B:Nat) (tv:Value) (l:jh) (W:World):Prop where
 out:∃ v,Boxed W B 43 v∧fI B W v l
 bP:Boxed W (B+1) 35 tv
 kp:Below B w2 W
theorem zl.own {w2 X Y:World} {B D:Nat} {tv:Value} {l:jh} {row:Option Nat} (hB:B≤w2.heap.size) (hD:B≤D) (h:zl w2 B tv l X) (hg:X.grownBy Y row) (hr:∀ r,row = some r→D≤r∧∃ o:Obj,X.heap[r]? = some o∧o.isCells = false):zl w2 B tv l Y:=by
 obtain ⟨⟨v,hv,hN⟩,bP,kp⟩:=h;exact ⟨⟨v,dm hv hg hr,hN.other hg (fun r e=>(hr r e).2)⟩,dm bP hg hr,⟨hg.os.trans kp.os,hg.tape.trans kp.tape,hg.output.trans kp.output,Nat.le_trans kp.size hg.size,fun k hk=>(hg.block k (by have:=kp.size;omega) (fun e=>by have:=(hr k e.symm).1;omega)).trans (kp.block k hk)⟩⟩
theorem zl.below {w2 W W':World} {B:Nat} {tv:Value} {l:jh} (hB:B≤w2.heap.size) (h:zl w2 B tv l W) (hb:Below W.heap.size W W'):zl w2 B tv l W':=by
 obtain ⟨⟨v,hv,hN⟩,bP,kp⟩:=h;exact ⟨⟨v,(hb.block _ hv.lt).trans hv,hN.below hb⟩,(hb.block _ bP.lt).trans bP,kp.trans (hb.mono (Nat.le_trans hB kp.size))⟩
theorem dV {C:Nat} {W W':World} (hb:Below W.heap.size W W'):KeepsFrom C W W':=⟨hb.size,fun k _ _ ho _=>(hb.block k (Array.getElem?_eq_some_iff.1 ho).1).trans ho⟩
theorem Qa {w2 W w':World} {B C:Nat} {tv v v':Value} {l:jh} {x:Nat × Nat × List Int} {tmp:Obj} (hB:B≤w2.heap.size) (hv:Boxed W B 43 v) (hN:fI B W v l) (bP:Boxed W (B+1) 35 tv) (kp:Below B w2 W) (hN':fI B w' v' (l++[x])) (hg:(W.alloc tmp).grownBy w' v.ownBlock) :
 Boxed w' B 43 v∧zl w2 B tv (l++[x]) (w'.setCell ⟨B,0,none⟩ v')∧KeepsFrom C W (w'.setCell ⟨B,0,none⟩ v'):=by
 have hBW:B≤W.heap.size:=Nat.le_trans hB kp.size;have hne:∀ {D:Nat} {e:TypeId} {y:Value},Boxed W D e y→e≠53→some D≠v.ownBlock:=fun hb he e'=>by
  obtain ⟨_,cs,p,h⟩:=hN.block e'.symm;exact nZ hb he cs p h
 have hv1:Boxed w' B 43 v:=(hv.alloc tmp).kept hg (hne hv (by decide));have bP1:Boxed w' (B+1) 35 tv:=(bP.alloc tmp).kept hg (hne bP (by decide));refine ⟨hv1,⟨⟨v',hv1.set v',hN'.set hv1 (by decide) (by decide) v'⟩,(Below.heap_setCell w' ⟨B,0,none⟩ v' (B+1) (by show B+1≠B;omega)).trans bP1,kp.trans ?_⟩,?_⟩
 ·refine (((Below.refl B W).alloc hBW tmp).grown hg (by simp;omega) fun j ej=>(hN.block ej).1).setCell (p:=⟨B,0,none⟩) (Nat.le_refl _) v'
 ·refine KeepsOthers.from (((KeepsOthers.alloc W tmp).trans (KeepsOthers.of_grownBy hg fun j o ej hj=>?_)).trans (KeepsOthers.setCell _ _ _)) C
  obtain ⟨_,cs,p,h⟩:=hN.block ej;have h2:(W.alloc tmp).heap[j]? = some (.cells cs 53 p):=(Below.heap_alloc W tmp j (Array.getElem?_eq_some_iff.1 h).1).trans h;rw [h2] at hj;cases hj;rfl
end Go.Proofs.YtglohanbpjaieaaGreat
