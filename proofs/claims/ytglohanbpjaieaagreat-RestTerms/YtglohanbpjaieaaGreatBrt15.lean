/-
  Parts of the proof: Web25, Uni1, Lit, Uni2, Uni3, Rul4, Rul5, Rul6, Rul7, Prs4, Rng6.
-/
import Derived.Test.YtglohanbpjaieaaGreatBrt14
import Derived.Test.YtglohanbpjaieaaGreatBrt6
import Derived.Test.YtglohanbpjaieaaGreatBrt11
import Derived.Test.YtglohanbpjaieaaGreatBrt2
import Derived.Test.YtglohanbpjaieaaGreatBrt1
import Derived.Test.YtglohanbpjaieaaGreatBrt9
import Derived.OwnWalkIn
import Derived.RangeFuncBox
namespace Go.Proofs.YtglohanbpjaieaaGreat
open Go.Proofs Go.RowKit Go.Shelf Go.Maps
def MeetR (F:Bool→Act) (n:Nat) (wr:World) (B1 B0:Nat) (zs:List Int) (h:Nat→Nat) (p q:Nat) (e:Exit) (a':Act) (w4:World):Prop :=
 e = .normal∧∃ (qb:Bool) (v3:Value),a' = F qb∧Below n wr w4∧((qb = true∧∃ h',Wb.TieL zs h h' [(p,q)]∧FW w4 B1 B0 v3 zs h')∨(qb = false∧Wb.No zs h [(p,q)]))
theorem MeetR.panic {F:Bool→Act} {n:Nat} {wr:World} {B1 B0:Nat} {zs:List Int} {h:Nat→Nat} {p q:Nat} {c:_} {a':Act} {w4:World} {G:Prop} (H:MeetR F n wr B1 B0 zs h p q (.panic c) a' w4):G:=by
 cases H.1
set_option maxRecDepth 100000 in
set_option maxHeartbeats 30000000 in
theorem meet_any (ps:PairL) (h40:ps.length≤40) (a:Option Addr) (cap:Nat) (w:World) (hP:RulesAt w.heap.size w a ps) :
 Calls Tryz.prog 127 #[.slice a ps.length cap] w fun e w'=>Below w.heap.size w w'∧MeetAns ps w' e:=by
 have h40':(ps.length:Int)≤40:=by omega
 have HP:=hid hP
 clear hP
 go_enter Tryz.func127,Tryz.ntmps127
 go_wp2_with fail
 go_loopw [14] (fun v wr=>∃ k:Nat,k≤ps.length∧v = .int .i64 (k:Int)∧Hid (Tm.firstPair ps = Tm.firstPair (ps.drop k))∧Below w.heap.size w wr) (fun v _=>ps.length - (intOf v).toNat)
 case atStart=>exact ⟨0,Nat.zero_le _,rfl,hid rfl,Below.refl _ _⟩
 case round =>
  obtain ⟨k,hk,rfl,hst,hB⟩:=hrel
  by_cases hlt:k < ps.length
  ·have hlt':(k:Int) < (ps.length:Int):=by omega
   obtain ⟨b,off,rfl,hb,aL,cL,aR,cR,h1,h2,h3,h4,_⟩:=(HP.out.below hB) k hlt
   have hs1:=hid (Tm.firstPair_step hlt)
   have hs2:=hid (Tm.firstPair_at hlt)
   obtain ⟨L,hL⟩:∃ L,(ps[k]?.getD ([],[])).1 = L:=⟨_,rfl⟩
   obtain ⟨R,hR⟩:∃ R,(ps[k]?.getD ([],[])).2 = R:=⟨_,rfl⟩
   rw [hL] at h1 h3 hs1 hs2
   rw [hR] at h2 h4 hs1 hs2
   have hBa:Below wr.heap.size wr (wr.alloc (.cells #[.slice aL L.length cL,.slice aR R.length cR] 40)):=(Below.refl _ wr).alloc (Nat.le_refl _) _
   have hC1:=hid (check_any L aL cL (wr.alloc (.cells #[.slice aL L.length cL,.slice aR R.length cR] 40)) (((h3.mono hB.size).below hBa).mono hBa.size))
   have hC2:=hid (fun w2 (hB2:Below (wr.alloc (.cells #[.slice aL L.length cL,.slice aR R.length cR] 40)).heap.size (wr.alloc (.cells #[.slice aL L.length cL,.slice aR R.length cR] 40)) w2)=>check_any R aR cR w2 (((((h4.mono hB.size).below hBa).mono hBa.size).below hB2).mono hB2.size))
   have hBw:=hB.trans (hBa.mono hB.size)
   have hq:Hid (Tm.pairErr L R = if Tm.err L = 0 then Tm.err R else Tm.err L):=rfl
   have hsa:(wr.alloc (.cells #[.slice aL L.length cL,.slice aR R.length cR] 40)).heap.size = wr.heap.size+1:=by simp
   have hcp:(wr.alloc (.cells #[.slice aL L.length cL,.slice aR R.length cR] 40)).cell? ⟨wr.heap.size,1,none⟩ = some (.slice aR R.length cR):=(cell_at (World.alloc_heap_new wr _) 1).trans rfl
   clear hL hR h3 h4
   by_cases heL:Tm.err L = 0
   ·rw [heL] at hC1
    by_cases heR:Tm.err R = 0
    ·rw [heR] at hC2
     have Hs:=hid (hs1.out (by rw [hq.out,if_pos heL,heR]))
     clear heL heR hs1 hs2 hq
     go_wp2_with (first
      | (go_at_call_of 49 (Value.slice aL L.length cL);refine hC1.out.mono ?_;clear hC1;rintro e w2 ⟨rfl,b2⟩;have hc2:=(b2.cell (p:=⟨wr.heap.size,1,none⟩) (by rw [hsa];exact Nat.lt_succ_self _)).trans hcp)
      | (go_at_call_of 49 (Value.slice aR R.length cR);refine (hC2.out w2 b2).mono ?_;clear hC2;rintro e w5 ⟨rfl,b5⟩))
     go_roundw
     case rel=>exact ⟨k+1,by omega,by go_num,hid (hst.out.trans Hs.out),(hBw.trans (b2.mono hBw.size)).trans (b5.mono (hBw.trans (b2.mono hBw.size)).size)⟩
     case measure=>simp [intOf];omega
    ·have hn:(Tm.err R != 0) = true:=by simpa using heR
     have Hs:=hid (hs2.out (by rw [hq.out,if_pos heL];exact heR))
     have Hv:=hid (show Tm.pairErr L R = Tm.err R by rw [hq.out,if_pos heL])
     have hne:=hid heR
     clear heL heR hs1 hs2 hq
     generalize Tm.err R = q at *
     go_wp2_with (first
      | (go_at_call_of 49 (Value.slice aL L.length cL);refine hC1.out.mono ?_;clear hC1;rintro e w2 ⟨rfl,b2⟩;have hc2:=(b2.cell (p:=⟨wr.heap.size,1,none⟩) (by rw [hsa];exact Nat.lt_succ_self _)).trans hcp)
      | (go_at_call_of 49 (Value.slice aR R.length cR);refine (hC2.out w2 b2).mono ?_;clear hC2;rintro e w5 ⟨rfl,b5⟩))
     go_ret3
     have he:=hst.out.trans (Hs.out.trans Hv.out)
     exact ⟨(hBw.trans (b2.mono hBw.size)).trans (b5.mono (hBw.trans (b2.mono hBw.size)).size),.inl ⟨by rw [he];exact hne.out,by rw [he];rfl⟩⟩
   ·have hn:(Tm.err L != 0) = true:=by simpa using heL
    have Hs:=hid (hs2.out (by rw [hq.out,if_neg heL];exact heL))
    have Hv:=hid (show Tm.pairErr L R = Tm.err L by rw [hq.out,if_neg heL])
    have hne:=hid heL
    clear heL hs1 hs2 hq
    generalize Tm.err L = q at *
    go_wp2_with (first
     | (go_at_call_of 49 (Value.slice aL L.length cL);refine hC1.out.mono ?_;clear hC1;rintro e w2 ⟨rfl,b2⟩))
    go_ret3
    have he:=hst.out.trans (Hs.out.trans Hv.out)
    exact ⟨hBw.trans (b2.mono hBw.size),.inl ⟨by rw [he];exact hne.out,by rw [he];rfl⟩⟩
  ·obtain rfl:k = ps.length:=by omega
   have hok:Hid (Tm.firstPair ps = 0):=by
    show _ = _
    rw [hst.out,List.drop_length]
    rfl
   go_wp2_with (first
    | (go_at_call 132;refine (newWeb_any wr).mono ?_;rintro e w5 ⟨v5,rfl,hF5,hB5⟩))
   have hsw:=hB.size
   have hB5w:=hB.trans (hB5.mono hB.size)
   have HF5:=hid hF5
   obtain ⟨W0,hW0⟩:∃ n,n = wr.heap.size:=⟨_,rfl⟩
   rw [← hW0] at HF5 hsw
   clear hF5 hst
   go_wp2_with fail
   rw [← hW0]
   clear hW0 hB5 hB
   go_loopw [34] (fun x wq=>∃ (k:Nat) (zs:List Int) (h:Nat→Nat) (v:Value),k≤ps.length∧x = .int .i64 (k:Int)∧Hid (Wb.MInv ps k zs h)∧Hid (FW wq (W0+1) W0 v zs h)∧Hid (Below w.heap.size w wq)) (fun x _=>ps.length - (intOf x).toNat)
   case atStart=>exact ⟨0,_,_,v5,by omega,rfl,Wb.MInv.start ps,HF5,hB5w⟩
   case round =>
    obtain ⟨k,zs,h,v,hk2,rfl,hM,hF,hBq⟩:=hrel
    by_cases hlt:k < ps.length
    ·have hlt':(k:Int) < (ps.length:Int):=by omega
     obtain ⟨b,off,rfl,hb,aL,cL,aR,cR,h1,h2,h3,h4,_⟩:=(HP.out.below hBq.out) k hlt
     obtain ⟨eL0,eR0⟩:=Tm.firstPair_right hok.out k hlt
     obtain ⟨L,hL⟩:∃ L,(ps[k]?.getD ([],[])).1 = L:=⟨_,rfl⟩
     obtain ⟨R,hR⟩:∃ R,(ps[k]?.getD ([],[])).2 = R:=⟨_,rfl⟩
     rw [hL] at h1 h3 eL0
     rw [hR] at h2 h4 eR0
     have lL:=Tm.err_len eL0
     have lR:=Tm.err_len eR0
     have pL:=Tm.err_pos eL0
     have pR:=Tm.err_pos eR0
     have hzl:=hM.out.len
     have G2:=hid (hM.out.good2 eL0 eR0 lL lR (by omega))
     have hsz:=hBq.out.size
     have hlw:=hF.out.lt
     obtain ⟨p,hp⟩:∃ p,p = zs.length:=⟨_,rfl⟩
     obtain ⟨q,hq⟩:∃ q,q = (zs++L).length:=⟨_,rfl⟩
     have hpq:q = p+L.length:=by rw [hp,hq,List.length_append]
     have hBa:Below wr.heap.size wr ((wr.alloc (.cells #[.slice aL L.length cL,.slice aR R.length cR] 40)).drewN 1):=below_drewN ((Below.refl _ wr).alloc (Nat.le_refl _) _) 1
     have hsa:((wr.alloc (.cells #[.slice aL L.length cL,.slice aR R.length cR] 40)).drewN 1).heap.size = wr.heap.size+1:=by show (wr.alloc _).heap.size = _;simp
     have hblk:((wr.alloc (.cells #[.slice aL L.length cL,.slice aR R.length cR] 40)).drewN 1).heap[wr.heap.size]? = some (.cells #[.slice aL L.length cL,.slice aR R.length cR] 40):=World.alloc_heap_new wr _
     have hnone:∀ {x:Option Addr} {t:List Int} {W:World} {n c:Nat},Ints n W x t→0 < t.length→x = none→t.length = 0∧c = 0:=fun {x t W n c} hI h0 e=>by
      obtain ⟨b',off',e',_⟩:=hI.at h0
      rw [e] at e'
      cases e'
     have hC1:=hid (fw_lay zs L h (W0+1) W0 v aL cL _ (hF.out.keep hBa) (((h3.mono hsz).below hBa).mono hBa.size) (hnone h3 pL) (by omega))
     have hC2:=hid (fun w2 v2 (hF2:FW w2 (W0+1) W0 v2 (zs++L) h) (hB2:Below w.heap.size wr w2)=>fw_lay (zs++L) R h (W0+1) W0 v2 aR cR w2 hF2 ((h4.below hB2).mono (by have:=hB2.size;omega)) (hnone h4 pR) (by rw [List.length_append];omega))
     rw [← hp] at hC1
     rw [← hq] at hC2
     have hlen3:(zs++L++R).length = p+L.length+R.length:=by rw [hp,List.length_append,List.length_append]
     have hT:=hid (fun w3 v3 (hF3:FW w3 (W0+1) W0 v3 (zs++L++R) h)=>fw_tie (zs++L++R) G2.out h (W0+1) W0 v3 p q w3 (by omega) (by omega) hF3)
     have hstep:=hid (fun h' hTL S'=>hM.out.step eL0 eR0 lL lR (by omega) hL hR pL pR (h':=h') hTL S')
     have hno:=hid (fun hN=>hM.out.no eL0 eR0 lL (by omega) hL hR hN)
     rw [← hp,← hq] at hstep hno
     have hwk:Hid (∀ (w1 w2:World) (u:Value) (zz:List Int) (hh:Nat→Nat),FW w1 (W0+1) W0 u zz hh→WKeep w1 w2 (W0+1) W0 u→Below w.heap.size w1 w2):=fun w1 w2 u zz hh hf hk=>⟨hk.1,hk.2.1,hk.2.2.1,hk.2.2.2.1,fun x hx=>hk.2.2.2.2 x (by have:=hf.lt;omega) (by omega) (by omega) (fun e=>by have:=(World.ownsRow.lt hf.own.2 x e.symm).1;omega)⟩
     have hFa:=hid (hF.out.keep hBa)
     have hvo:=hid (fun x (e:v.ownBlock = some x)=>(World.ownsRow.lt hF.out.own.2 x e).2)
     clear hL hR h3 h4 hp hq hnone hM hF eL0 eR0 hpq hlen3
     have hcc:Hid (∀ W:World,W.heap[wr.heap.size]? = some (.cells #[.slice aL L.length cL,.slice aR R.length cR] 40)→W.cell? ⟨wr.heap.size,0,none⟩ = some (.slice aL L.length cL)∧W.cell? ⟨wr.heap.size,1,none⟩ = some (.slice aR R.length cR)):=fun W hW=>⟨(cell_at hW 0).trans rfl,(cell_at hW 1).trans rfl⟩
     have hb2:Hid (∀ (w2:World),WKeep ((wr.alloc (.cells #[.slice aL L.length cL,.slice aR R.length cR] 40)).drewN 1) w2 (W0+1) W0 v→w2.heap[wr.heap.size]? = some (.cells #[.slice aL L.length cL,.slice aR R.length cR] 40)):=fun w2 hk=>(hk.2.2.2.2 wr.heap.size (by rw [hsa];omega) (by omega) (by omega) (fun e=>by have:=hvo.out _ e.symm;omega)).trans hblk
     have hS0:=hcc.out _ hblk
     have hS0':(wr.alloc (.cells #[.slice aL L.length cL,.slice aR R.length cR] 40)).cell? ⟨wr.heap.size,0,none⟩ = some (.slice aL L.length cL)∧(wr.alloc (.cells #[.slice aL L.length cL,.slice aR R.length cR] 40)).cell? ⟨wr.heap.size,1,none⟩ = some (.slice aR R.length cR):=hS0
     go_wp2_with fail
     have mixed:Tryz.prog.follows .mixedOrders = true:=by kernel_rfl
     refine wp_mono (Q:=MeetR (fun qb=>{ tmps:=#[.slice (some ⟨b,off,none⟩) ps.length cap,undef,u2,u3,u4,undef,u6,u7,u8,.pointer (some ⟨W0+1,0,none⟩),undef,.pointer (some ⟨wr.heap.size,0,none⟩),.slice (some ⟨b,off,none⟩) ps.length cap,.int .i64 (ps.length:Int),.int .i64 (ps.length:Int),.bool false,u16,u17,u18,u19,u20,u21,u22,u23,u24,u25,u26,u27,u28,u29,u30,.pointer (some ⟨W0+1,0,none⟩),.slice (some ⟨b,off,none⟩) ps.length cap,.int .i64 (ps.length:Int),.int .i64 (k:Int),.bool true,.pointer (some ⟨b,off+k * 2,none⟩),.agg #[.slice aL L.length cL,.slice aR R.length cR],.pointer (some ⟨W0+1,0,none⟩),.pointer (some ⟨W0+1,0,none⟩),.pointer (some ⟨wr.heap.size,0,none⟩),.slice aL L.length cL,.int .i64 (p:Int),.pointer (some ⟨W0+1,0,none⟩),.pointer (some ⟨wr.heap.size,1,none⟩),.slice aR R.length cR,.int .i64 (q:Int),.bool qb,.bool !qb,u49,undef,undef,undef,undef,undef,undef,undef],defers:=[] }) w.heap.size wr (W0+1) W0 (zs++L++R) h p q) ?reg ?aft
     case reg =>
      refine wp_region_any mixed ?_
      change wpAny _ _ _ _ _ _ _ (World.drew _)
      show wpAny _ _ _ _ 11 (Array.replicate 11 false) _ _
      refine wpAny_take (i:=0) (v:=.pointer (some ⟨W0+1,0,none⟩)) rfl (by kernel_rfl) (by kernel_rfl) (by kernel_rfl) (fun _ _ _ h=>h.panic) (Or.inl ⟨by rfl,fun w=>by go_simp⟩) ?_
      refine wpAny_take (i:=1) (v:=.pointer (some ⟨W0+1,0,none⟩)) rfl (by kernel_rfl) (by kernel_rfl) (by kernel_rfl) (fun _ _ _ h=>h.panic) (Or.inl ⟨by rfl,fun w=>by go_simp⟩) ?_
      refine wpAny_take (i:=2) (v:=.pointer (some ⟨wr.heap.size,0,none⟩)) rfl (by kernel_rfl) (by kernel_rfl) (by kernel_rfl) (fun _ _ _ h=>h.panic) (Or.inl ⟨by rfl,fun w=>by go_simp⟩) ?_
      refine wpAny_take (i:=5) (v:=.pointer (some ⟨W0+1,0,none⟩)) rfl (by kernel_rfl) (by kernel_rfl) (by kernel_rfl) (fun _ _ _ h=>h.panic) (Or.inl ⟨by rfl,fun w=>by go_simp⟩) ?_
      refine wpAny_take (i:=6) (v:=.pointer (some ⟨wr.heap.size,1,none⟩)) rfl (by kernel_rfl) (by kernel_rfl) (by kernel_rfl) (fun _ _ _ h=>h.panic) (Or.inl ⟨by rfl,fun w=>by go_simp⟩) ?_
      refine wpAny_ready (rs:=[3,7]) (by kernel_rfl) (by simp) ?_
      refine AllReady.cons rfl (fun K hK=>?_) (AllReady.cons rfl (fun K hK=>?_) AllReady.nil)
      ·go_simp
       refine hK _ _ ?_
       clear hK K
       refine wpAny_ready (rs:=[4,7]) (by kernel_rfl) (by simp) ?_
       refine AllReady.cons rfl (fun K hK=>?_) (AllReady.cons rfl (fun K hK=>?_) AllReady.nil)
       ·go_simp
        refine hC1.out.mono ?_
        rintro e w2 ⟨rfl,v2,hF2,hK2,ho2⟩
        have hb22:=hb2.out w2 hK2
        have hS2:w2.cell? ⟨wr.heap.size,0,none⟩ = some (.slice aL L.length cL)∧w2.cell? ⟨wr.heap.size,1,none⟩ = some (.slice aR R.length cR):=hcc.out w2 hb22
        have c21:=hS2.2
        have hB2:Below w.heap.size wr w2:=(hBa.mono hsz).trans (hwk.out _ w2 v _ _ hFa.out hK2)
        refine hK _ _ ?_
        clear hK K
        refine wpAny_ready (rs:=[7]) (by kernel_rfl) (by simp) ?_
        refine AllReady.cons rfl (fun K hK=>?_) AllReady.nil
        go_simp
        refine hK _ _ ?_
        clear hK K
        refine wpAny_ready (rs:=[8]) (by kernel_rfl) (by simp) ?_
        refine AllReady.cons rfl (fun K hK=>?_) AllReady.nil
        go_simp
        refine (hC2.out w2 v2 hF2 hB2).mono ?_
        rintro e w3 ⟨rfl,v3,hF3,hK3,ho3⟩
        have hb33:w3.heap[wr.heap.size]? = some (.cells #[.slice aL L.length cL,.slice aR R.length cR] 40):=(hK3.2.2.2.2 wr.heap.size (Array.getElem?_eq_some_iff.1 hb22).1 (by omega) (by omega) (fun e=>by rcases ho2 _ e.symm with h | h;exact absurd (hvo.out _ h) (Nat.lt_irrefl _);rw [hsa] at h;omega)).trans hb22
        have hS3:w3.cell? ⟨wr.heap.size,0,none⟩ = some (.slice aL L.length cL)∧w3.cell? ⟨wr.heap.size,1,none⟩ = some (.slice aR R.length cR):=hcc.out w3 hb33
        have hB3:Below w.heap.size wr w3:=hB2.trans (hwk.out _ w3 v2 _ _ hF2 hK3)
        refine hK _ _ ?_
        clear hK K
        refine wpAny_ready (rs:=[9]) (by kernel_rfl) (by simp) ?_
        refine AllReady.cons rfl (fun K hK=>?_) AllReady.nil
        go_simp
        refine (hT.out w3 v3 hF3).mono ?_
        rintro e w4 ⟨qb,rfl,hK4,hq4⟩
        have hb44:w4.heap[wr.heap.size]? = some (.cells #[.slice aL L.length cL,.slice aR R.length cR] 40):=(hK4.block _ (Array.getElem?_eq_some_iff.1 hb33).1 (by omega)).trans hb33
        have hS4:w4.cell? ⟨wr.heap.size,0,none⟩ = some (.slice aL L.length cL)∧w4.cell? ⟨wr.heap.size,1,none⟩ = some (.slice aR R.length cR):=hcc.out w4 hb44
        have hB4:Below w.heap.size wr w4:=hB3.trans ⟨hK4.os,hK4.tape,hK4.output,hK4.size,fun x hx=>hK4.block x (by have:=hB3.size;omega) (by omega)⟩
        refine hK _ _ ?_
        clear hK K
        refine wpAny_ready (rs:=[10]) (by kernel_rfl) (by simp) ?_
        refine AllReady.cons rfl (fun K hK=>?_) AllReady.nil
        go_simp
        refine hK _ _ ?_
        clear hK K
        refine wpAny_done (by kernel_rfl) ?_ _
        exact ⟨rfl,qb,v3,rfl,hB4,hq4⟩
       ·go_simp
        refine hK _ _ ?_
        clear hK K
        refine wpAny_ready (rs:=[4]) (by kernel_rfl) (by simp) ?_
        refine AllReady.cons rfl (fun K hK=>?_) AllReady.nil
        go_simp
        refine hC1.out.mono ?_
        rintro e w2 ⟨rfl,v2,hF2,hK2,ho2⟩
        have hb22:=hb2.out w2 hK2
        have hS2:w2.cell? ⟨wr.heap.size,0,none⟩ = some (.slice aL L.length cL)∧w2.cell? ⟨wr.heap.size,1,none⟩ = some (.slice aR R.length cR):=hcc.out w2 hb22
        have c21:=hS2.2
        have hB2:Below w.heap.size wr w2:=(hBa.mono hsz).trans (hwk.out _ w2 v _ _ hFa.out hK2)
        refine hK _ _ ?_
        clear hK K
        refine wpAny_ready (rs:=[8]) (by kernel_rfl) (by simp) ?_
        refine AllReady.cons rfl (fun K hK=>?_) AllReady.nil
        go_simp
        refine (hC2.out w2 v2 hF2 hB2).mono ?_
        rintro e w3 ⟨rfl,v3,hF3,hK3,ho3⟩
        have hb33:w3.heap[wr.heap.size]? = some (.cells #[.slice aL L.length cL,.slice aR R.length cR] 40):=(hK3.2.2.2.2 wr.heap.size (Array.getElem?_eq_some_iff.1 hb22).1 (by omega) (by omega) (fun e=>by rcases ho2 _ e.symm with h | h;exact absurd (hvo.out _ h) (Nat.lt_irrefl _);rw [hsa] at h;omega)).trans hb22
        have hS3:w3.cell? ⟨wr.heap.size,0,none⟩ = some (.slice aL L.length cL)∧w3.cell? ⟨wr.heap.size,1,none⟩ = some (.slice aR R.length cR):=hcc.out w3 hb33
        have hB3:Below w.heap.size wr w3:=hB2.trans (hwk.out _ w3 v2 _ _ hF2 hK3)
        refine hK _ _ ?_
        clear hK K
        refine wpAny_ready (rs:=[9]) (by kernel_rfl) (by simp) ?_
        refine AllReady.cons rfl (fun K hK=>?_) AllReady.nil
        go_simp
        refine (hT.out w3 v3 hF3).mono ?_
        rintro e w4 ⟨qb,rfl,hK4,hq4⟩
        have hb44:w4.heap[wr.heap.size]? = some (.cells #[.slice aL L.length cL,.slice aR R.length cR] 40):=(hK4.block _ (Array.getElem?_eq_some_iff.1 hb33).1 (by omega)).trans hb33
        have hS4:w4.cell? ⟨wr.heap.size,0,none⟩ = some (.slice aL L.length cL)∧w4.cell? ⟨wr.heap.size,1,none⟩ = some (.slice aR R.length cR):=hcc.out w4 hb44
        have hB4:Below w.heap.size wr w4:=hB3.trans ⟨hK4.os,hK4.tape,hK4.output,hK4.size,fun x hx=>hK4.block x (by have:=hB3.size;omega) (by omega)⟩
        refine hK _ _ ?_
        clear hK K
        refine wpAny_ready (rs:=[10]) (by kernel_rfl) (by simp) ?_
        refine AllReady.cons rfl (fun K hK=>?_) AllReady.nil
        go_simp
        refine hK _ _ ?_
        clear hK K
        refine wpAny_done (by kernel_rfl) ?_ _
        exact ⟨rfl,qb,v3,rfl,hB4,hq4⟩
      ·go_simp
       refine hK _ _ ?_
       clear hK K
       refine wpAny_ready (rs:=[3]) (by kernel_rfl) (by simp) ?_
       refine AllReady.cons rfl (fun K hK=>?_) AllReady.nil
       go_simp
       refine hK _ _ ?_
       clear hK K
       refine wpAny_ready (rs:=[4]) (by kernel_rfl) (by simp) ?_
       refine AllReady.cons rfl (fun K hK=>?_) AllReady.nil
       go_simp
       refine hC1.out.mono ?_
       rintro e w2 ⟨rfl,v2,hF2,hK2,ho2⟩
       have hb22:=hb2.out w2 hK2
       have hS2:w2.cell? ⟨wr.heap.size,0,none⟩ = some (.slice aL L.length cL)∧w2.cell? ⟨wr.heap.size,1,none⟩ = some (.slice aR R.length cR):=hcc.out w2 hb22
       have c21:=hS2.2
       have hB2:Below w.heap.size wr w2:=(hBa.mono hsz).trans (hwk.out _ w2 v _ _ hFa.out hK2)
       refine hK _ _ ?_
       clear hK K
       refine wpAny_ready (rs:=[8]) (by kernel_rfl) (by simp) ?_
       refine AllReady.cons rfl (fun K hK=>?_) AllReady.nil
       go_simp
       refine (hC2.out w2 v2 hF2 hB2).mono ?_
       rintro e w3 ⟨rfl,v3,hF3,hK3,ho3⟩
       have hb33:w3.heap[wr.heap.size]? = some (.cells #[.slice aL L.length cL,.slice aR R.length cR] 40):=(hK3.2.2.2.2 wr.heap.size (Array.getElem?_eq_some_iff.1 hb22).1 (by omega) (by omega) (fun e=>by rcases ho2 _ e.symm with h | h;exact absurd (hvo.out _ h) (Nat.lt_irrefl _);rw [hsa] at h;omega)).trans hb22
       have hS3:w3.cell? ⟨wr.heap.size,0,none⟩ = some (.slice aL L.length cL)∧w3.cell? ⟨wr.heap.size,1,none⟩ = some (.slice aR R.length cR):=hcc.out w3 hb33
       have hB3:Below w.heap.size wr w3:=hB2.trans (hwk.out _ w3 v2 _ _ hF2 hK3)
       refine hK _ _ ?_
       clear hK K
       refine wpAny_ready (rs:=[9]) (by kernel_rfl) (by simp) ?_
       refine AllReady.cons rfl (fun K hK=>?_) AllReady.nil
       go_simp
       refine (hT.out w3 v3 hF3).mono ?_
       rintro e w4 ⟨qb,rfl,hK4,hq4⟩
       have hb44:w4.heap[wr.heap.size]? = some (.cells #[.slice aL L.length cL,.slice aR R.length cR] 40):=(hK4.block _ (Array.getElem?_eq_some_iff.1 hb33).1 (by omega)).trans hb33
       have hS4:w4.cell? ⟨wr.heap.size,0,none⟩ = some (.slice aL L.length cL)∧w4.cell? ⟨wr.heap.size,1,none⟩ = some (.slice aR R.length cR):=hcc.out w4 hb44
       have hB4:Below w.heap.size wr w4:=hB3.trans ⟨hK4.os,hK4.tape,hK4.output,hK4.size,fun x hx=>hK4.block x (by have:=hB3.size;omega) (by omega)⟩
       refine hK _ _ ?_
       clear hK K
       refine wpAny_ready (rs:=[10]) (by kernel_rfl) (by simp) ?_
       refine AllReady.cons rfl (fun K hK=>?_) AllReady.nil
       go_simp
       refine hK _ _ ?_
       clear hK K
       refine wpAny_done (by kernel_rfl) ?_ _
       exact ⟨rfl,qb,v3,rfl,hB4,hq4⟩
     case aft =>
      rintro e a' w4 ⟨rfl,qb,v3,rfl,hB4,hq4⟩
      clear hC1 hC2 hT hb2 hcc hS0 hS0' hwk hFa hvo hblk hBa
      rcases hq4 with ⟨rfl,h',hTL,hF4⟩ | ⟨rfl,hNo⟩
      ·go_wp2
       go_roundw
       case rel =>
        have hB4w:=hBq.out.trans hB4
        have HF4:=hid hF4
        obtain ⟨_,T4,_,_,S4,_⟩:=hF4
        exact ⟨k+1,zs++L++R,h',v3,by omega,by go_num,hid (hstep.out h' hTL ⟨T4,S4⟩),HF4,hid hB4w⟩
       case measure=>simp [intOf];omega
      ·go_wp2
       go_ret3
       have hB4w:=hBq.out.trans hB4
       exact ⟨hB4w,.inr ⟨hok.out,.inl ⟨fun θ hθ H=>hno.out hNo θ hθ (fun j hj=>H j (by omega)),rfl⟩⟩⟩
    ·obtain rfl:k = ps.length:=by omega
     obtain ⟨T,hS⟩:=hM.out.st
     obtain ⟨b,c,rfl,T',N,S',hWb,_⟩:=hF.out.st (by have:=hM.out.good.eight;omega)
     have hTB:=hid (turnsBack_any zs hM.out.good T' h S' (W0+1) W0 b 0 c N wr hWb)
     have hGr:=hid (fun w7 (hB7:Below wr.heap.size wr w7) f (hf:∀ i,i < 8→Wb.Exp zs h i (f i))=>grow_any zs hM.out.good T' h S' (W0+1) W0 b 0 c N f hf w7 (hWb.below hB7))
     clear hWb hS
     go_wp2_with (first
      | (go_at_call 135;refine hTB.out.mono ?_;clear hTB;rintro e w7 ⟨hB7,(⟨rfl,hNo⟩ | ⟨rfl,hFin⟩)⟩)
      | (go_at_call 136;obtain ⟨σ,hσ,hE⟩:=hM.out.mgu hFin;refine (hGr.out w7 hB7 (fun i:Nat=>σ (-1 - (i:Int))) hE).mono ?_;clear hGr;rintro e w8 ⟨hB8,(⟨h30,a8,rfl,hS8⟩ | ⟨h30,rfl⟩)⟩))
     ·go_ret3
      exact ⟨hBq.out.trans (hB7.mono hBq.out.size),.inr ⟨hok.out,.inl ⟨fun θ hθ H=>hNo θ hθ (hM.out.sound θ hθ H),rfl⟩⟩⟩
     ·go_ret3
      have hB78:=hBq.out.trans (hB7.mono hBq.out.size)
      exact ⟨hB78.trans (hB8.mono hB78.size),.inr ⟨hok.out,.inr ⟨σ,hσ,.inl ⟨h30,a8,rfl,hS8⟩⟩⟩⟩
     ·go_ret3
      have hB78:=hBq.out.trans (hB7.mono hBq.out.size)
      exact ⟨hB78.trans (hB8.mono hB78.size),.inr ⟨hok.out,.inr ⟨σ,hσ,.inr ⟨h30,rfl⟩⟩⟩⟩
theorem Tm.known_of {s:Int} (h1:-8≤s) (h2:s < 6):Tm.known s = true:=by
 simp [Tm.known]
 omega
theorem Tm.firstErr_of {ss:List (List Int)} (h:∀ k,k < ss.length→Tm.err (ss[k]?.getD []) = 0):Tm.firstErr ss = 0:=by
 induction ss with
 | nil=>rfl
 | cons t l ih =>
  rw [Tm.firstErr,if_pos (by simpa using h 0 (by simp))]
  exact ih fun k hk=>by simpa using h (k+1) (by simpa using hk)
def Tm.sbL (σ:Wb.Sb):List (List Int):=(List.range 8).map fun i:Nat=>σ (-1 - (i:Int))
theorem Tm.sbL_length (σ:Wb.Sb):(Tm.sbL σ).length = 8:=by simp [Tm.sbL]
theorem Tm.sbL_at (σ:Wb.Sb) {i:Nat} (h:i < 8):(Tm.sbL σ)[i]?.getD [] = σ (-1 - (i:Int)):=by
 unfold Tm.sbL
 rw [List.getElem?_map,List.getElem?_range h]
 rfl
theorem Tm.sbL_congr {σ τ:Wb.Sb} (h:∀ v,-8≤v→v < 0→σ v = τ v):Tm.sbL σ = Tm.sbL τ:=by
 unfold Tm.sbL
 refine List.map_congr_left fun i hi=>?_
 have:=List.mem_range.1 hi
 exact h _ (by omega) (by omega)
theorem Tm.piece_sbL (σ:Wb.Sb) {s:Int} (h8:-8≤s):Tm.piece (Tm.sbL σ) s = if s < 0 then σ s else [s]:=by
 unfold Tm.piece
 by_cases hs:s < 0
 ·rw [if_pos hs,if_pos hs,Tm.sbL_at σ (by omega),show -1 - (((-1 - s).toNat:Nat):Int) = s from by omega]
 ·rw [if_neg hs,if_neg hs]
theorem Tm.applied_sbL (σ:Wb.Sb):∀ (t:List Int),t.all Tm.known = true→Tm.applied (Tm.sbL σ) t = Wb.App σ t:=by
 intro t
 induction t with
 | nil=>intro _;rfl
 | cons s l ih =>
  intro h
  rw [List.all_cons,Bool.and_eq_true] at h
  rw [Tm.applied_cons,Wb.App_cons,ih h.2,Tm.piece_sbL σ (Tm.known_ge h.1)]
def Tm.MeetSays (ps:PairL) (er:Int) (is:Bool) (val:List (List Int)):Prop :=
 (Tm.firstPair ps≠0∧er = Tm.firstPair ps∧is = false∧val = []) ∨
 (Tm.firstPair ps = 0∧(∀ θ,Wb.TermSb θ→¬ Wb.Same ps ps.length θ)∧er = 0∧is = false∧val = []) ∨
 (Tm.firstPair ps = 0∧∃ σ,Wb.Mgu ps σ∧(∀ i:Nat,i < 8→(σ (-1 - (i:Int))).length≤30)∧er = 0∧is = true∧val = Tm.sbL σ) ∨
 (Tm.firstPair ps = 0∧∃ σ,Wb.Mgu ps σ∧(∃ i:Nat,i < 8∧30 < (σ (-1 - (i:Int))).length)∧er = 2∧is = false∧val = [])
theorem Tm.MeetSays.one {ps:PairL} {er er':Int} {is is':Bool} {val val':List (List Int)} (A:Tm.MeetSays ps er is val) (B:Tm.MeetSays ps er' is' val'):er = er'∧is = is'∧val = val':=by
 rcases A with ⟨a1,rfl,rfl,rfl⟩ | ⟨a1,a2,rfl,rfl,rfl⟩ | ⟨a1,σ,a2,a3,rfl,rfl,rfl⟩ | ⟨a1,σ,a2,⟨i,hi,a3⟩,rfl,rfl,rfl⟩ <;>
 rcases B with ⟨b1,rfl,rfl,rfl⟩ | ⟨b1,b2,rfl,rfl,rfl⟩ | ⟨b1,τ,b2,b3,rfl,rfl,rfl⟩ | ⟨b1,τ,b2,⟨j,hj,b3⟩,rfl,rfl,rfl⟩
 ·exact ⟨rfl,rfl,rfl⟩
 ·exact absurd b1 a1
 ·exact absurd b1 a1
 ·exact absurd b1 a1
 ·exact absurd a1 b1
 ·exact ⟨rfl,rfl,rfl⟩
 ·exact absurd b2.same (a2 τ b2.term)
 ·exact absurd b2.same (a2 τ b2.term)
 ·exact absurd a1 b1
 ·exact absurd a2.same (b2 σ a2.term)
 ·exact ⟨rfl,rfl,Tm.sbL_congr (a2.one b2)⟩
 ·have:=a2.one b2 (-1 - (j:Int)) (by omega) (by omega)
  have h:=a3 j hj
  rw [this] at h
  omega
 ·exact absurd a1 b1
 ·exact absurd a2.same (b2 σ a2.term)
 ·have:=a2.one b2 (-1 - (i:Int)) (by omega) (by omega)
  have h:=b3 i hi
  rw [← this] at h
  omega
 ·exact ⟨rfl,rfl,rfl⟩
theorem Wb.Mgu.errs {ps:PairL} {σ:Wb.Sb} (M:Wb.Mgu ps σ) (h:∀ i:Nat,i < 8→(σ (-1 - (i:Int))).length≤30):Tm.subErr (Tm.sbL σ) = 0:=by
 have h1:Tm.firstErr (Tm.sbL σ) = 0:=by
  refine Tm.firstErr_of fun i hi=>?_
  rw [Tm.sbL_length] at hi
  rw [Tm.sbL_at σ hi]
  refine Tm.err_ok (h i hi) ?_ (M.term _ (by omega))
  rw [List.all_eq_true]
  intro s hs
  obtain ⟨h1,h2⟩:=M.vars _ (by omega) (by omega) s hs
  exact Tm.known_of h1 h2
 unfold Tm.subErr
 rw [if_pos (Tm.sbL_length σ),h1]
theorem Tm.firstPair_one (a b:List Int):Tm.firstPair [(a,b)] = Tm.pairErr a b:=by
 rw [Tm.firstPair]
 by_cases h:Tm.pairErr a b = 0
 ·rw [if_pos h,h];rfl
 ·rw [if_neg h]
theorem Tm.pairErr_zero {a b:List Int}:Tm.pairErr a b = 0 ↔ Tm.err a = 0∧Tm.err b = 0:=by
 unfold Tm.pairErr
 by_cases h:Tm.err a = 0
 ·rw [if_pos h];exact ⟨fun e=>⟨h,e⟩,fun e=>e.2⟩
 ·rw [if_neg h];exact ⟨fun e=>absurd e h,fun e=>absurd e.1 h⟩
theorem Tm.meet_true {a b:List Int} {val:List (List Int)} (A:Tm.MeetSays [(a,b)] 0 true val):Tm.subErr val = 0∧Tm.err a = 0∧Tm.err b = 0∧Tm.applied val a = Tm.applied val b∧Tm.afterErr val val = 0∧Tm.afterVal val val = val:=by
 rcases A with ⟨_,_,h,_⟩ | ⟨_,_,_,h,_⟩ | ⟨a1,σ,M,h30,_,_,rfl⟩ | ⟨_,σ,_,_,_,h,_⟩
 ·cases h
 ·cases h
 ·rw [Tm.firstPair_one,Tm.pairErr_zero] at a1
  have hs:=M.errs h30
  have hss:Tm.afterL (Tm.sbL σ) (Tm.sbL σ) = Tm.sbL σ:=by
   unfold Tm.afterL
   rw [Tm.sbL,List.map_map]
   refine List.map_congr_left fun i hi=>?_
   have:=List.mem_range.1 hi
   show Tm.applied (Tm.sbL σ) (σ _) = σ _
   rw [Tm.applied_sbL σ _ (by
    rw [List.all_eq_true]
    intro s hs
    obtain ⟨h1,h2⟩:=M.vars _ (by omega) (by omega) s hs
    exact Tm.known_of h1 h2)]
   exact (M.most σ M.term M.same _ (by omega) (by omega)).symm
  have he:Tm.afterErr (Tm.sbL σ) (Tm.sbL σ) = 0:=by
   unfold Tm.afterErr
   rw [if_pos hs,if_pos hs,if_pos]
   rw [List.all_eq_true]
   intro t ht
   have hm:Tm.applied (Tm.sbL σ) t∈Tm.afterL (Tm.sbL σ) (Tm.sbL σ):=List.mem_map_of_mem ht
   rw [hss] at hm
   unfold Tm.fits
   rw [decide_eq_true_eq]
   obtain ⟨i,hi,e⟩:=List.mem_map.1 hm
   rw [← e]
   exact h30 i (List.mem_range.1 hi)
  refine ⟨hs,a1.1,a1.2,?_,he,by unfold Tm.afterVal;rw [if_pos he,hss]⟩
  rw [Tm.applied_sbL σ a (Tm.err_all a1.1),Tm.applied_sbL σ b (Tm.err_all a1.2)]
  exact M.same 0 (by simp)
 ·cases h
theorem MeetAns.says {ps:PairL} {W:World} {e:Ending} (h:MeetAns ps W e):∃ er is val a,Tm.MeetSays ps er is val∧e = .returned (.tuple #[.slice a val.length val.length,.bool is,.int .i64 er])∧Subs W.heap.size W a val:=by
 rcases h with ⟨h1,rfl⟩ | ⟨h1,⟨h2,rfl⟩ | ⟨σ,M,⟨h30,a,rfl,hS⟩ | ⟨h30,rfl⟩⟩⟩
 ·exact ⟨_,_,[],none,.inl ⟨h1,rfl,rfl,rfl⟩,rfl,Subs.nil _ _ _⟩
 ·exact ⟨_,_,[],none,.inr (.inl ⟨h1,h2,rfl,rfl,rfl⟩),rfl,Subs.nil _ _ _⟩
 ·exact ⟨_,_,Tm.sbL σ,a,.inr (.inr (.inl ⟨h1,σ,M,h30,rfl,rfl,rfl⟩)),by rw [Tm.sbL_length],hS⟩
 ·exact ⟨_,_,[],none,.inr (.inr (.inr ⟨h1,σ,M,h30,rfl,rfl,rfl⟩)),rfl,Subs.nil _ _ _⟩
theorem rulesAt_of {n B:Nat} {W:World} {rs:RuleL} {cs:Array Value} {t:TypeId} {p:Nat × Nat} (hblk:W.heap[B]? = some (.cells cs t p)) (hB:B < n)
 (h:∀ k,k < rs.length→∃ aL aR,cs[k * 2]? = some (.slice aL (rs[k]?.getD ([],[])).1.length (rs[k]?.getD ([],[])).1.length)∧cs[k * 2+1]? = some (.slice aR (rs[k]?.getD ([],[])).2.length (rs[k]?.getD ([],[])).2.length) ∧
   Ints n W aL (rs[k]?.getD ([],[])).1∧Ints n W aR (rs[k]?.getD ([],[])).2∧(rs[k]?.getD ([],[])).1.length≤1000∧(rs[k]?.getD ([],[])).2.length≤1000):RulesAt n W (some ⟨B,0,none⟩) rs:=fun k hk=>by
 obtain ⟨aL,aR,h1,h2,h3,h4,h5,h6⟩:=h k hk
 refine ⟨B,0,rfl,hB,aL,_,aR,_,by rw [cell_at hblk,Nat.zero_add];exact h1,by rw [cell_at hblk,Nat.zero_add];exact h2,h3,h4,Nat.le_refl _,by unfold maxLen;omega,Nat.le_refl _,by unfold maxLen;omega⟩
def allocs:World→List (List Int)→World
 | w,[]=>w
 | w,z :: l=>allocs (w.alloc (.cells (z.map (Value.int .i64)).toArray 3)) l
theorem allocs_size:∀ (l:List (List Int)) (w:World),(allocs w l).heap.size = w.heap.size+l.length:=by
 intro l
 induction l with
 | nil=>intro w;rfl
 | cons z l ih=>intro w;rw [allocs,ih,World.size_alloc,List.length_cons];omega
theorem allocs_below:∀ (l:List (List Int)) (w:World),Below w.heap.size w (allocs w l):=by
 intro l
 induction l with
 | nil=>intro w;exact Below.refl _ _
 | cons z l ih =>
  intro w
  rw [allocs]
  exact ((Below.refl _ w).alloc (Nat.le_refl _) _).trans ((ih _).mono (by simp))
theorem allocs_ints:∀ (l:List (List Int)) (w:World) (i:Nat),i < l.length→Ints (w.heap.size+l.length) (allocs w l) (some ⟨w.heap.size+i,0,none⟩) (l[i]?.getD []):=by
 intro l
 induction l with
 | nil=>intro w i hi;simp at hi
 | cons z l ih =>
  intro w i hi
  rw [allocs]
  cases i with
  | zero =>
   have h1:=ints_lit w z (w.heap.size+1) rfl
   have h2:=h1.below (by rw [← World.size_alloc w (.cells (z.map (Value.int .i64)).toArray 3)];exact allocs_below l _)
   exact h2.mono (by rw [List.length_cons];omega)
  | succ i =>
   have h:=ih (w.alloc (.cells (z.map (Value.int .i64)).toArray 3)) i (by simpa using hi)
   rw [World.size_alloc] at h
   rw [show w.heap.size+(i+1) = w.heap.size+1+i from by omega,show w.heap.size+(z :: l).length = w.heap.size+1+l.length from by rw [List.length_cons];omega]
   exact h
theorem g_same (xs ys:List Int) (n m c:Nat) (a:Option Addr) (w:World) (hn:n = xs.length) (hm:m = ys.length) (hl:xs.length≤1000) (hI:Ints w.heap.size w a xs) (h:sameB xs ys = true) :
 Calls Tryz.prog 25 #[.slice a n c,.slice (some ⟨w.heap.size,0,none⟩) m m] (w.alloc (.cells (ys.map (Value.int .i64)).toArray 3)) fun e w'=>e = .returned (.bool true)∧Below w.heap.size w w':=by
 subst hn hm
 have hB:Below w.heap.size w (w.alloc (.cells (ys.map (Value.int .i64)).toArray 3)):=(Below.refl _ _).alloc (Nat.le_refl _) _
 refine (same_any xs ys a _ c ys.length _ ((hI.below hB).mono hB.size) (ints_lit w ys _ (by simp)) (by unfold maxLen;omega)).mono ?_
 rintro e w' ⟨rfl,hB'⟩
 exact ⟨by rw [h],hB.trans (hB'.mono hB.size)⟩
set_option maxRecDepth 100000 in
set_option maxHeartbeats 1000000 in
theorem Meet_any (a b:List Int) (aa ab:Option Addr) (ca cb:Nat) (w:World) (hA:Ints w.heap.size w aa a) (hB:Ints w.heap.size w ab b) (ha1:a.length≤ca) (ha2:ca≤maxLen) (hb1:b.length≤cb) (hb2:cb≤maxLen) :
 Calls Tryz.prog 106 #[.slice aa a.length ca,.slice ab b.length cb] w fun e w'=>Below w.heap.size w w'∧∃ er is val x,Tm.MeetSays [(a,b)] er is val∧e = .returned (.tuple #[.slice x val.length val.length,.bool is,.int .i64 er])∧Subs w'.heap.size w' x val:=by
 have hBl:Below w.heap.size w (w.alloc (.cells #[.slice aa a.length ca,.slice ab b.length cb] 40)):=(Below.refl _ w).alloc (Nat.le_refl _) _
 have blk:(w.alloc (.cells #[.slice aa a.length ca,.slice ab b.length cb] 40)).heap[w.heap.size]? = some (.cells #[.slice aa a.length ca,.slice ab b.length cb] 40):=World.alloc_heap_new w _
 have hR:RulesAt (w.alloc (.cells #[.slice aa a.length ca,.slice ab b.length cb] 40)).heap.size (w.alloc (.cells #[.slice aa a.length ca,.slice ab b.length cb] 40)) (some ⟨w.heap.size,0,none⟩) [(a,b)]:=by
  intro k hk
  obtain rfl:k = 0:=by simp at hk;omega
  exact ⟨w.heap.size,0,rfl,by simp,aa,ca,ab,cb,(cell_at blk 0).trans rfl,(cell_at blk 1).trans rfl,(hA.below hBl).mono hBl.size,(hB.below hBl).mono hBl.size,ha1,ha2,hb1,hb2⟩
 have hM:=hid (meet_any [(a,b)] (by simp) (some ⟨w.heap.size,0,none⟩) 1 _ hR)
 have HB:=hid hBl
 clear hR blk hA hB hBl
 go_enter Tryz.func106,Tryz.ntmps106
 go_wp2_with fail
 refine hM.out.mono ?_
 rintro e w2 ⟨hB2,hAns⟩
 obtain ⟨er,is,val,x,hs,rfl,hS⟩:=hAns.says
 have Hs:=hid hs
 have HS:=hid hS
 clear hM hAns hs hS
 go_wp2
 go_ret3
 exact ⟨HB.out.trans (hB2.mono HB.out.size),er,is,val,x,Hs.out,rfl,HS.out⟩
theorem Wb.split {x y r s:List Int} (hx:Tm.run x 1 = x.length) (hy:Tm.run y 1 = y.length) (h:x++r = y++s):x = y∧r = s:=by
 have h1:=Tm.run_app x r 1 (by omega)
 have h2:=Tm.run_app y s 1 (by omega)
 rw [h,h2,hx,hy] at h1
 exact List.append_inj h h1.symm
theorem Tryz.info40:(Tryz.prog.info? 40).map (fun i=>(i.zero,i.size,i.bytes)) = some (some (.agg #[.slice none 0 0,.slice none 0 0]),2,48):=by kernel_rfl
def Tm.fallsB (rk:List Int) (rs:RuleL):Bool:=rs.all fun r=>Tm.aboveVal rk r.1 r.2
def Tm.fallsErr (rk:List Int) (rs:RuleL):Int:=if Tm.rankErr rk = 0 then Tm.rulesErr rs else Tm.rankErr rk
def Tm.fallsVal (rk:List Int) (rs:RuleL):Bool:=if Tm.fallsErr rk rs = 0 then Tm.fallsB rk rs else false
theorem Tm.firstRule_zero {rs:RuleL} (h:Tm.firstRule rs = 0):∀ k,k < rs.length→Tm.ruleErr (rs[k]?.getD ([],[])).1 (rs[k]?.getD ([],[])).2 = 0:=by
 induction rs with
 | nil=>intro k hk;simp at hk
 | cons r l ih =>
  rw [Tm.firstRule] at h
  by_cases h1:Tm.ruleErr r.1 r.2 = 0
  ·rw [if_pos h1] at h
   intro k hk
   cases k with
   | zero=>simpa using h1
   | succ k=>simpa using ih h k (by simpa using hk)
  ·rw [if_neg h1] at h;exact absurd h h1
theorem Tm.rulesErr_ok {rs:RuleL} (h:Tm.rulesErr rs = 0):rs.length≤8∧∀ k,k < rs.length→Tm.ruleErr (rs[k]?.getD ([],[])).1 (rs[k]?.getD ([],[])).2 = 0:=by
 unfold Tm.rulesErr at h
 by_cases h8:8 < rs.length
 ·rw [if_pos h8] at h;omega
 ·rw [if_neg h8] at h;exact ⟨by omega,Tm.firstRule_zero h⟩
theorem Tm.ruleErr_ok {L R:List Int} (h:Tm.ruleErr L R = 0):Tm.err L = 0∧Tm.err R = 0∧L.any foreignB = false∧R.any foreignB = false∧(0:Int)≤L[0]?.getD 0∧R.any (freeIn L) = false:=by
 unfold Tm.ruleErr at h
 by_cases h1:Tm.err L = 0
 ·rw [if_pos h1] at h
  by_cases h2:Tm.err R = 0
  ·rw [if_pos h2] at h
   cases h3:L.any foreignB with
   | true=>rw [h3,if_pos rfl] at h;omega
   | false =>
    rw [h3,if_neg (by decide)] at h
    cases h4:R.any foreignB with
    | true=>rw [h4,if_pos rfl] at h;omega
    | false =>
     rw [h4,if_neg (by decide)] at h
     by_cases h5:L[0]?.getD 0 < 0
     ·rw [if_pos h5] at h;omega
     ·rw [if_neg h5] at h
      cases h6:R.any (freeIn L) with
      | true=>rw [h6,if_pos rfl] at h;omega
      | false=>exact ⟨h1,h2,rfl,rfl,by omega,rfl⟩
  ·rw [if_neg h2] at h;exact absurd h h2
 ·rw [if_neg h1] at h;exact absurd h h1
theorem fallsB_snoc {rk:List Int} {rs:RuleL} {k:Nat} (hk:k < rs.length) (h:Tm.fallsB rk (rs.take k) = true):Tm.fallsB rk (rs.take (k+1)) = Tm.aboveVal rk (rs[k]?.getD ([],[])).1 (rs[k]?.getD ([],[])).2:=by
 unfold Tm.fallsB at *
 rw [List.take_add_one,List.all_append,h]
 simp [hk]
theorem fallsB_no {rk:List Int} {rs:RuleL} {k:Nat} (hk:k < rs.length) (h:Tm.aboveVal rk (rs[k]?.getD ([],[])).1 (rs[k]?.getD ([],[])).2 = false):Tm.fallsB rk rs = false:=by
 rw [Bool.eq_false_iff]
 intro e
 unfold Tm.fallsB at e
 rw [List.all_eq_true] at e
 have:=e rs[k] (List.getElem_mem hk)
 simp only [hk,List.getElem?_eq_getElem,Option.getD_some] at h
 rw [h] at this
 cases this
set_option maxRecDepth 100000 in
set_option maxHeartbeats 1000000 in
theorem rulesFalls_any (rk:List Int) (rs:RuleL) (ar a:Option Addr) (cr cap:Nat) (w:World) (hR:Ints w.heap.size w ar rk) (hI:RulesAt w.heap.size w a rs) :
 Calls Tryz.prog 58 #[.slice ar rk.length cr,.slice a rs.length cap] w fun e w'=>e = .returned (.tuple #[.bool (Tm.fallsVal rk rs),.int .i64 (Tm.fallsErr rk rs)])∧Below w.heap.size w w':=by
 have C1:=orderCheck_any rk ar cr w hR
 have C2:=rulesCheck_any rs a cap w hI
 by_cases h1:Tm.rankErr rk = 0
 ·rw [h1] at C1
  have he:Tm.fallsErr rk rs = Tm.rulesErr rs:=by unfold Tm.fallsErr;rw [if_pos h1]
  by_cases h2:Tm.rulesErr rs = 0
  ·rw [h2] at C2
   have hv:Tm.fallsVal rk rs = Tm.fallsB rk rs:=by unfold Tm.fallsVal;rw [he,if_pos h2]
   rw [hv,he,h2]
   obtain ⟨h8,hall⟩:=Tm.rulesErr_ok h2
   have h8':(rs.length:Int)≤8:=by omega
   have HA:=hid (fun W (hW:Below w.heap.size w W) k (hk:k < rs.length) aL aR cL cR hL hR2 h3 h4 h5 h6=>orderAbove_any rk (rs[k]?.getD ([],[])).1 (rs[k]?.getD ([],[])).2 ar aL aR cr cL cR W ((hR.below hW).mono hW.size) hL hR2 h3 h4 h5 h6)
   have HE:=hid (fun k (hk:k < rs.length)=>Tm.aboveErr_of h1 (Tm.ruleErr_ok (hall k hk)).1 (Tm.ruleErr_ok (hall k hk)).2.1)
   clear he hv h1 h2 hall hR h8
   go_enter Tryz.func58,Tryz.ntmps58
   go_wp2_with fail
   refine C1.mono ?_
   rintro e w ⟨rfl,rfl⟩
   go_wp2_with fail
   refine C2.mono ?_
   rintro e w1 ⟨rfl,b1⟩
   go_wp2_with fail
   go_loopw [24] (fun v wr=>∃ k:Nat,k≤rs.length∧v = .int .i64 (k:Int)∧Hid (Tm.fallsB rk (rs.take k) = true)∧Below w.heap.size w wr) (fun v _=>rs.length - (intOf v).toNat)
   case atStart=>exact ⟨0,Nat.zero_le _,rfl,hid rfl,b1⟩
   case round =>
    obtain ⟨k,hk,rfl,hst,hB⟩:=hrel
    by_cases hlt:k < rs.length
    ·have hlt':(k:Int) < (rs.length:Int):=by omega
     obtain ⟨b,off,rfl,hb,aL,cL,aR,cR,g1,g2,g3,g4,g5,g6,g7,g8⟩:=(hI.below hB) k hlt
     have hs1:=hid (fallsB_snoc hlt hst.out)
     have hs2:=hid (fun h=>fallsB_no (rk:=rk) hlt h)
     have he:=HE.out k hlt
     have hBa:Below wr.heap.size wr (wr.alloc (.cells #[.slice aL (rs[k]?.getD ([],[])).1.length cL,.slice aR (rs[k]?.getD ([],[])).2.length cR] 54)):=(Below.refl _ wr).alloc (Nat.le_refl _) _
     have hBw:=hB.trans (hBa.mono hB.size)
     have hC:=hid (HA.out _ hBw k hlt aL aR cL cR (((g3.mono hB.size).below hBa).mono hBa.size) (((g4.mono hB.size).below hBa).mono hBa.size) g5 g6 g7 g8)
     rw [he] at hC
     generalize (rs[k]?.getD ([],[])).1 = L at *
     generalize (rs[k]?.getD ([],[])).2 = R at *
     clear he g3 g4 g5 g6 g7 g8
     cases hq:Tm.aboveVal rk L R with
     | true =>
      rw [hq] at hC hs1
      clear hq hs2
      go_wp2_with (first
       | (go_at_call 59;refine hC.out.mono ?_;clear hC;rintro e w2 ⟨rfl,b2⟩))
      go_roundw
      case rel=>exact ⟨k+1,by omega,by go_num,hid hs1.out,hBw.trans (b2.mono hBw.size)⟩
      case measure=>simp [intOf];omega
     | false =>
      have hno:=hid (hs2.out hq)
      rw [hq] at hC
      clear hq hs1 hs2
      go_wp2_with (first
       | (go_at_call 59;refine hC.out.mono ?_;clear hC;rintro e w2 ⟨rfl,b2⟩))
      go_ret2
      exact ⟨by rw [hno.out];rfl,hBw.trans (b2.mono hBw.size)⟩
    ·obtain rfl:k = rs.length:=by omega
     rw [List.take_length] at hst
     go_wp2
     go_ret2
     exact ⟨by rw [hst.out];rfl,hB⟩
  ·have hv:Tm.fallsVal rk rs = false:=by unfold Tm.fallsVal;rw [he,if_neg h2]
   have hn:(Tm.rulesErr rs != 0) = true:=by simpa using h2
   rw [hv,he]
   clear h1 h2 he hv hR hI
   generalize Tm.rulesErr rs = q at *
   go_enter Tryz.func58,Tryz.ntmps58
   go_wp2_with fail
   refine C1.mono ?_
   rintro e w ⟨rfl,rfl⟩
   go_wp2_with fail
   refine C2.mono ?_
   rintro e w1 ⟨rfl,b1⟩
   go_wp2
   go_ret2
   exact ⟨rfl,b1⟩
 ·have he:Tm.fallsErr rk rs = Tm.rankErr rk:=by unfold Tm.fallsErr;rw [if_neg h1]
  have hv:Tm.fallsVal rk rs = false:=by unfold Tm.fallsVal;rw [he,if_neg h1]
  have hn:(Tm.rankErr rk != 0) = true:=by simpa using h1
  rw [hv,he]
  clear h1 he hv hR hI C2
  generalize Tm.rankErr rk = q at *
  go_enter Tryz.func58,Tryz.ntmps58
  go_wp2_with fail
  refine C1.mono ?_
  rintro e w ⟨rfl,rfl⟩
  go_wp2
  go_ret2
  exact ⟨rfl,Below.refl _ _⟩
def Tm.replErr (ss:List (List Int)) (t:List Int) (k:Int) (r:List Int):Int:=if Tm.applyErr ss r = 0 then Tm.putErr t k (Tm.applyVal ss r) else Tm.applyErr ss r
def Tm.replVal (ss:List (List Int)) (t:List Int) (k:Int) (r:List Int):List Int:=if Tm.applyErr ss r = 0 then Tm.putVal t k (Tm.applyVal ss r) else []
set_option maxRecDepth 100000 in
set_option maxHeartbeats 1000000 in
theorem replaced_any (ss:List (List Int)) (t r:List Int) (k:Int) (aS at' ar:Option Addr) (cs ct cr:Nat) (w:World) (hS:Subs w.heap.size w aS ss) (hT:Ints w.heap.size w at' t) (hR:Ints w.heap.size w ar r) (h1:t.length≤ct) (h2:ct≤maxLen) :
 Calls Tryz.prog 52 #[.slice at' t.length ct,.int .i64 k,.slice aS ss.length cs,.slice ar r.length cr] w fun e w'=>∃ v,e = .returned (.tuple #[v,.int .i64 (Tm.replErr ss t k r)])∧New w.heap.size w' v (Tm.replVal ss t k r)∧Below w.heap.size w w':=by
 have C1:=apply_any ss r aS ar cs cr w hS hR
 by_cases he:Tm.applyErr ss r = 0
 ·have e1:Tm.replErr ss t k r = Tm.putErr t k (Tm.applyVal ss r):=by unfold Tm.replErr;rw [if_pos he]
  have e2:Tm.replVal ss t k r = Tm.putVal t k (Tm.applyVal ss r):=by unfold Tm.replVal;rw [if_pos he]
  rw [e1,e2]
  rw [he] at C1
  clear e1 e2 he hS hR
  generalize Tm.applyVal ss r = u at *
  go_enter Tryz.func52,Tryz.ntmps52
  go_wp2_with fail
  refine C1.mono ?_
  rintro e w1 ⟨v1,rfl,hN1,b1⟩
  obtain ⟨x1,c1,rfl,hI1,_⟩:=New.ints hN1
  have C2:=termPut_any t u at' x1 ct c1 k w1 ((hT.below b1).mono b1.size) hI1 h1 h2
  clear C1 hN1 hI1
  go_wp2_with fail
  refine C2.mono ?_
  rintro e w2 ⟨v2,rfl,hN2,b2⟩
  clear C2
  go_wp2
  go_ret2
  exact ⟨_,rfl,hN2.mono b1.size,b1.trans (b2.mono b1.size)⟩
 ·have e1:Tm.replErr ss t k r = Tm.applyErr ss r:=by unfold Tm.replErr;rw [if_neg he]
  have e2:Tm.replVal ss t k r = []:=by unfold Tm.replVal;rw [if_neg he]
  have hn:(Tm.applyErr ss r != 0) = true:=by simpa using he
  rw [e1,e2]
  clear e1 e2 he hS hR hT h1 h2
  generalize Tm.applyErr ss r = q at *
  go_enter Tryz.func52,Tryz.ntmps52
  go_wp2_with fail
  refine C1.mono ?_
  rintro e w1 ⟨v1,rfl,hN1,b1⟩
  obtain ⟨x1,c1,rfl,hI1,_⟩:=New.ints hN1
  clear C1 hN1 hI1
  go_wp2
  go_ret2
  exact ⟨_,rfl,New.nil _ _,b1⟩
abbrev StepL:=List (Nat × Nat × List Int)
def NewT (base:Nat) (W:World) (v:Value) (sts:StepL):Prop :=
 ∃ us:List Value,W.ownsRow base 53 3 v sts.length us∧∀ j,j < sts.length→∃ u,us[j * 3]? = some (.int .i64 ((sts[j]?.getD (0,0,[])).1:Int))∧us[j * 3+1]? = some (.int .i64 ((sts[j]?.getD (0,0,[])).2.1:Int))∧us[j * 3+2]? = some u∧New base W u (sts[j]?.getD (0,0,[])).2.2
theorem NewT.nil (base:Nat) (W:World):NewT base W (.slice none 0 0) []:=⟨[],World.ownsRow_nil _ _ _ _,fun j hj=>by simp at hj⟩
theorem New.apartT {base:Nat} {W:World} {u v:Value} {t:List Int} {n:Nat} {us:List Value} (hu:New base W u t) (hv:W.ownsRow base 53 3 v n us):u.ownBlock = none∨u.ownBlock≠v.ownBlock:=by
 rcases hu.2 with ⟨rfl,_⟩ | ⟨g,cap,cur,rfl,hb,hg,r⟩
 ·exact .inl rfl
 ·right
  rcases hv.2 with ⟨rfl,_⟩ | ⟨g',cap',cur',rfl,hb',hg',r'⟩
  ·intro e;cases e
  ·intro e
   simp only [Value.ownBlock,Option.some.injEq] at e
   subst e
   rw [hg] at hg'
   simp at hg'
theorem NewT.below {base:Nat} {W W':World} {v:Value} {sts:StepL} (h:NewT base W v sts) (hB:Below W.heap.size W W'):NewT base W' v sts:=by
 obtain ⟨us,h1,h2⟩:=h
 refine ⟨us,World.ownsRow.kept h1 (grown_of_below hB) (by cases h:v.ownBlock with | none=>exact .inl rfl | some k=>exact .inr (by simp)),fun j hj=>?_⟩
 obtain ⟨u,a,b,c,d⟩:=h2 j hj
 exact ⟨u,a,b,c,New.below d hB⟩
theorem Tryz.info53:(Tryz.prog.info? 53).map (fun i=>(i.zero,i.size,i.bytes)) = some (some (.agg #[.int .i64 0,.int .i64 0,.slice none 0 0]),3,40):=by kernel_rfl
def Tm.hitB (rs:RuleL) (t:List Int) (a k:Nat):Bool:=Tm.fitIs (rs[k]?.getD ([],[])).1 (Tm.part t a)
def Tm.hitErr (rs:RuleL) (t:List Int) (a k:Nat):Int:=Tm.replErr (Tm.fitVal (rs[k]?.getD ([],[])).1 (Tm.part t a)) t (a:Int) (rs[k]?.getD ([],[])).2
def Tm.hitVal (rs:RuleL) (t:List Int) (a k:Nat):List Int:=Tm.replVal (Tm.fitVal (rs[k]?.getD ([],[])).1 (Tm.part t a)) t (a:Int) (rs[k]?.getD ([],[])).2
def Tm.rowE (rs:RuleL) (t:List Int) (a:Nat):Nat→Int
 | 0=>0
 | n+1=>if Tm.rowE rs t a n = 0 then (if Tm.hitB rs t a n = true then Tm.hitErr rs t a n else 0) else Tm.rowE rs t a n
def Tm.rowL (rs:RuleL) (t:List Int) (a:Nat):Nat→StepL
 | 0=>[]
 | n+1=>Tm.rowL rs t a n++(if Tm.hitB rs t a n = true then [(n,a,Tm.hitVal rs t a n)] else [])
def Tm.allE (rs:RuleL) (t:List Int):Nat→Int
 | 0=>0
 | m+1=>if Tm.allE rs t m = 0 then Tm.rowE rs t m rs.length else Tm.allE rs t m
def Tm.allL (rs:RuleL) (t:List Int):Nat→StepL
 | 0=>[]
 | m+1=>Tm.allL rs t m++Tm.rowL rs t m rs.length
def Tm.stepErr (rs:RuleL) (t:List Int):Int:=if Tm.rulesErr rs = 0 then (if Tm.err t = 0 then Tm.allE rs t t.length else Tm.err t) else Tm.rulesErr rs
def Tm.stepVal (rs:RuleL) (t:List Int):StepL:=if Tm.stepErr rs t = 0 then Tm.allL rs t t.length else []
theorem Tm.rowE_stays {rs:RuleL} {t:List Int} {a n:Nat} (h:Tm.rowE rs t a n≠0):∀ m,n≤m→Tm.rowE rs t a m = Tm.rowE rs t a n:=by
 intro m hm
 induction m with
 | zero=>obtain rfl:n = 0:=by omega
         rfl
 | succ m ih =>
  by_cases e:n = m+1
  ·rw [e]
  ·rw [Tm.rowE,if_neg (by rw [ih (by omega)];exact h),ih (by omega)]
theorem Tm.allE_stays {rs:RuleL} {t:List Int} {n:Nat} (h:Tm.allE rs t n≠0):∀ m,n≤m→Tm.allE rs t m = Tm.allE rs t n:=by
 intro m hm
 induction m with
 | zero=>obtain rfl:n = 0:=by omega
         rfl
 | succ m ih =>
  by_cases e:n = m+1
  ·rw [e]
  ·rw [Tm.allE,if_neg (by rw [ih (by omega)];exact h),ih (by omega)]
theorem Tm.allE_stop {rs:RuleL} {t:List Int} {a n:Nat} (h0:Tm.allE rs t a = 0) (hr:Tm.rowE rs t a n = 0) (ha:a < t.length) (hn:n < rs.length) (hb:Tm.hitB rs t a n = true) (he:Tm.hitErr rs t a n≠0) :
 Tm.allE rs t t.length = Tm.hitErr rs t a n:=by
 have e1:Tm.rowE rs t a (n+1) = Tm.hitErr rs t a n:=by rw [Tm.rowE,if_pos hr,if_pos hb]
 have e2:Tm.rowE rs t a rs.length = Tm.hitErr rs t a n:=by rw [Tm.rowE_stays (by rw [e1];exact he) rs.length (by omega),e1]
 have e3:Tm.allE rs t (a+1) = Tm.hitErr rs t a n:=by rw [Tm.allE,if_pos h0,e2]
 rw [Tm.allE_stays (by rw [e3];exact he) t.length (by omega),e3]
theorem Tm.allE_next {rs:RuleL} {t:List Int} {a:Nat} (h0:Tm.allE rs t a = 0) (hr:Tm.rowE rs t a rs.length = 0):Tm.allE rs t (a+1) = 0:=by rw [Tm.allE,if_pos h0,hr]
theorem Tm.rowE_no {rs:RuleL} {t:List Int} {a n:Nat} (hr:Tm.rowE rs t a n = 0) (hb:Tm.hitB rs t a n = false):Tm.rowE rs t a (n+1) = 0:=by rw [Tm.rowE,if_pos hr,hb,if_neg (by decide)]
theorem Tm.rowE_yes {rs:RuleL} {t:List Int} {a n:Nat} (hr:Tm.rowE rs t a n = 0) (hb:Tm.hitB rs t a n = true) (he:Tm.hitErr rs t a n = 0):Tm.rowE rs t a (n+1) = 0:=by rw [Tm.rowE,if_pos hr,if_pos hb,he]
theorem Tm.rowL_no {rs:RuleL} {t:List Int} {a n:Nat} (hb:Tm.hitB rs t a n = false):Tm.rowL rs t a (n+1) = Tm.rowL rs t a n:=by rw [Tm.rowL,hb,if_neg (by decide),List.append_nil]
theorem Tm.rowL_yes {rs:RuleL} {t:List Int} {a n:Nat} (hb:Tm.hitB rs t a n = true):Tm.rowL rs t a (n+1) = Tm.rowL rs t a n++[(n,a,Tm.hitVal rs t a n)]:=by rw [Tm.rowL,if_pos hb]
theorem Tm.rowL_le (rs:RuleL) (t:List Int) (a:Nat):∀ n,(Tm.rowL rs t a n).length≤n:=by
 intro n
 induction n with
 | zero=>simp [Tm.rowL]
 | succ n ih =>
  rw [Tm.rowL,List.length_append]
  split
  ·simp only [List.length_cons,List.length_nil];omega
  ·simp only [List.length_nil];omega
theorem Tm.allL_le (rs:RuleL) (t:List Int):∀ m,(Tm.allL rs t m).length≤m * rs.length:=by
 intro m
 induction m with
 | zero=>simp [Tm.allL]
 | succ m ih =>
  rw [Tm.allL,List.length_append,Nat.succ_mul]
  have:=Tm.rowL_le rs t m rs.length
  omega
theorem Tm.applied_put_le {t u:List Int} {a:Nat}:u.length≤(Tm.put t a u).length:=by unfold Tm.put;simp only [List.length_append];omega
theorem insideB_place {t:List Int} {a:Nat} (ha:a < t.length):insideB (a:Int) 0 ((t.length:Int) - 1) = true:=by rw [insideB_iff];omega
theorem Tm.repl_fit {L R t:List Int} {a:Nat} {m:Asg} (hL:Tm.err L = 0) (hR:Tm.err R = 0) (ht:Tm.err t = 0) (ha:a < t.length) (hf:Tm.fit L (Tm.part t a) = some m) :
 Tm.replErr (Tm.fitL m 8) t (a:Int) R = (if 30 < (Tm.put t a (Tm.applied (Tm.fitL m 8) R)).length then 2 else 0) ∧
  Tm.replVal (Tm.fitL m 8) t (a:Int) R = (if 30 < (Tm.put t a (Tm.applied (Tm.fitL m 8) R)).length then [] else Tm.put t a (Tm.applied (Tm.fitL m 8) R)):=by
 have hs:=Tm.subErr_fitL hL (Tm.part_err ht ha) hf
 obtain ⟨e1,e2⟩:=Tm.apply_ok hs hR
 have hle:=Tm.applied_put_le (t:=t) (u:=Tm.applied (Tm.fitL m 8) R) (a:=a)
 by_cases h30:30 < (Tm.applied (Tm.fitL m 8) R).length
 ·rw [if_pos h30] at e1
  have h2:¬ (2:Int) = 0:=by decide
  refine ⟨?_,?_⟩
  ·unfold Tm.replErr;rw [e1,if_neg h2,if_pos (by omega)]
  ·unfold Tm.replVal;rw [e1,if_neg h2,if_pos (by omega)]
 ·rw [if_neg h30] at e1 e2
  have hu:=Tm.err_applied (Terms.of hs) hR (by omega)
  unfold Tm.replErr Tm.replVal
  rw [e1,if_pos rfl,if_pos rfl,e2,Tm.putErr_in ht hu (insideB_place ha),Tm.putVal_in ht hu (insideB_place ha)]
  exact ⟨rfl,rfl⟩
theorem Tm.hitB_fit {rs:RuleL} {t:List Int} {a k:Nat} (hL:Tm.err (rs[k]?.getD ([],[])).1 = 0) (ht:Tm.err t = 0) (ha:a < t.length):Tm.hitB rs t a k = (Tm.fit (rs[k]?.getD ([],[])).1 (Tm.part t a)).isSome:=by
 unfold Tm.hitB Tm.fitIs
 rw [if_pos (Tm.fitErr_of hL (Tm.part_err ht ha))]
theorem Tm.hit_fit {rs:RuleL} {t:List Int} {a k:Nat} {m:Asg} (hL:Tm.err (rs[k]?.getD ([],[])).1 = 0) (hR:Tm.err (rs[k]?.getD ([],[])).2 = 0) (ht:Tm.err t = 0) (ha:a < t.length) (hf:Tm.fit (rs[k]?.getD ([],[])).1 (Tm.part t a) = some m) :
 Tm.hitErr rs t a k = (if 30 < (Tm.put t a (Tm.applied (Tm.fitL m 8) (rs[k]?.getD ([],[])).2)).length then 2 else 0) ∧
  Tm.hitVal rs t a k = (if 30 < (Tm.put t a (Tm.applied (Tm.fitL m 8) (rs[k]?.getD ([],[])).2)).length then [] else Tm.put t a (Tm.applied (Tm.fitL m 8) (rs[k]?.getD ([],[])).2)):=by
 unfold Tm.hitErr Tm.hitVal
 rw [(Tm.fit_yes (Tm.fitErr_of hL (Tm.part_err ht ha)) hf).2]
 exact Tm.repl_fit hL hR ht ha hf
theorem row_apart {W:World} {base:Nat} {e:TypeId} {size:Nat} {v:Value} {n:Nat} {us:List Value} (h:W.ownsRow base e size v n us) {row:Option Nat} (hr:∀ k,row = some k→∀ cs p,W.heap[k]?≠some (.cells cs e p)):v.ownBlock = none∨v.ownBlock≠row:=by
 rcases h.2 with ⟨rfl,_⟩ | ⟨g,cap,cur,rfl,_,hgb,_⟩
 ·exact .inl rfl
 ·refine .inr fun e'=>?_
  exact hr g (by rw [← e'];rfl) _ _ hgb
theorem NewT.grown {base:Nat} {W W':World} {v:Value} {sts:StepL} {row:Option Nat} (h:NewT base W v sts) (hg:W.grownBy W' row) (hr:∀ k,row = some k→∀ cs p,W.heap[k]?≠some (.cells cs 53 p)∧W.heap[k]?≠some (.cells cs 3 p)):NewT base W' v sts:=by
 obtain ⟨us,h1,h2⟩:=h
 refine ⟨us,h1.kept hg (row_apart h1 fun k e cs p=>(hr k e cs p).1),fun j hj=>?_⟩
 obtain ⟨u,a,b,c,d⟩:=h2 j hj
 exact ⟨u,a,b,c,World.ownsRow.kept d hg (row_apart d fun k e cs p=>(hr k e cs p).2)⟩
theorem boxed_ne {W:World} {B:Nat} {t e:TypeId} {x:Value} (h:Boxed W B t x) (hte:t≠e) (cs:Array Value) (p:Nat × Nat):W.heap[B]?≠some (.cells cs e p):=by
 rw [show W.heap[B]? = _ from h]
 intro h'
 simp only [Option.some.injEq,Obj.cells.injEq] at h'
 exact hte h'.2.1
theorem NewT.set {base:Nat} {W:World} {v:Value} {sts:StepL} (h:NewT base W v sts) {B:Nat} {t:TypeId} {x:Value} (hb:Boxed W B t x) (h1:t≠53) (h2:t≠3) (y:Value):NewT base (W.setCell ⟨B,0,none⟩ y) v sts :=
 h.grown (grownBy_setCell' W B y) fun k e cs p=>by
  cases e
  exact ⟨boxed_ne hb h1 cs p,boxed_ne hb h2 cs p⟩
theorem NewT.other {base:Nat} {W W':World} {v:Value} {sts:StepL} {row:Option Nat} (h:NewT base W v sts) (hg:W.grownBy W' row) (hr:∀ r,row = some r→∃ o:Obj,W.heap[r]? = some o∧o.isCells = false):NewT base W' v sts :=
 h.grown hg fun k e cs p=>by
  obtain ⟨o,ho,hc⟩:=hr k e
  rw [ho]
  refine ⟨?_,?_⟩ <;> (intro h';simp only [Option.some.injEq] at h';subst h';simp [Obj.isCells] at hc)
theorem NewT.mono {base base':Nat} {W:World} {v:Value} {sts:StepL} (h:NewT base W v sts) (hb:base'≤base):NewT base' W v sts:=by
 obtain ⟨us,h1,h2⟩:=h
 refine ⟨us,⟨h1.1,h1.2.elim .inl (fun ⟨g,cap,cur,e1,e2,e3⟩=>.inr ⟨g,cap,cur,e1,Nat.le_trans hb e2,e3⟩)⟩,fun j hj=>?_⟩
 obtain ⟨u,a,b,c,d⟩:=h2 j hj
 exact ⟨u,a,b,c,d.mono hb⟩
theorem NewT.block {base:Nat} {W:World} {v:Value} {sts:StepL} (h:NewT base W v sts) {k:Nat} (hk:v.ownBlock = some k):base≤k∧∃ cs p,W.heap[k]? = some (.cells cs 53 p):=by
 obtain ⟨us,h1,_⟩:=h
 rcases h1.2 with ⟨rfl,_⟩ | ⟨g,cap,cur,rfl,hb,hgb,_⟩
 ·cases hk
 ·obtain rfl:g = k:=by simpa [Value.ownBlock] using hk
  exact ⟨hb,_,_,hgb⟩
theorem NewT.slice {base:Nat} {W:World} {v:Value} {sts:StepL} (h:NewT base W v sts):∃ a cap,v = .slice a sts.length cap:=by
 obtain ⟨us,h1,_⟩:=h
 rcases h1.2 with ⟨rfl,h0⟩ | ⟨g,cap,cur,rfl,_⟩
 ·exact ⟨none,0,by rw [h0]⟩
 ·exact ⟨_,_,rfl⟩
theorem Tryz.infoSteps:Tryz.prog.underlying 43 = some (.slice 53):=by kernel_rfl
theorem wpi_append_step {F:Fence} {n:Nat} {ops:Array Oper} {rest:List Oper} {o:Oper} {a:Act} {Q:Exit→Act→World→Prop} (w:World) (hgd:o.guard = none) (s x:Operand)
 (ho:o.op = .call { callee:=.builtin .append,args:=#[s,x],argTypes:=#[43,43] }) (base:Nat) (v:Value) (sts:StepL) (hs:a.eval s = v) (hN:NewT base w v sts)
 (u:Value) (r p:Nat) (t:List Int) (B:Nat) (hx:a.eval x = .slice (some ⟨B,0,none⟩) 1 1) (hB0:w.cell? ⟨B,0,none⟩ = some (.int .i64 (r:Int))) (hB1:w.cell? ⟨B,1,none⟩ = some (.int .i64 (p:Int))) (hB2:w.cell? ⟨B,2,none⟩ = some u) (hu:New base w u t) (hlen:sts.length≤1000000) (hbase:base≤w.heap.size)
 (h:∀ v' w',NewT base w' v' (sts++[(r,p,t)])→w.grownBy w' v.ownBlock→(∃ g cap,v' = .slice (some ⟨g,0,none⟩) (sts.length+1) cap)→wpListIn F n Tryz.prog ops Q rest (a.put o.dst v') w'):wpListIn F n Tryz.prog ops Q (o :: rest) a w:=by
 obtain ⟨i0,hi,hz0,hz1,hz2⟩:=info_parts Tryz.info53
 obtain ⟨us,h1,h2⟩:=hN
 have hul:us.length = sts.length * 3:=h1.1
 refine wpListIn_append_own w hgd s x 43 ho base 53 i0 (.agg #[.int .i64 0,.int .i64 0,.slice none 0 0]) 3 40 Tryz.infoSteps hi hz0 hz1 hz2 rfl (by decide) v sts.length us hs h1 ⟨B,0,none⟩ 1 1 [.int .i64 (r:Int),.int .i64 (p:Int),u] hx (by simp)
  (by intro j z hj
      match j,hj with
      | 0,hj=>simp at hj;subst hj;rw [Go.WideShapes.add_plain];simpa using hB0
      | 1,hj=>simp at hj;subst hj;rw [Go.WideShapes.add_plain];simpa using hB1
      | 2,hj=>simp at hj;subst hj;rw [Go.WideShapes.add_plain];simpa using hB2)
  (by intro z hz;simp at hz;obtain ⟨_,_,rfl,_⟩:=New.ints hu;rcases hz with rfl | rfl | rfl <;> rfl) (by unfold maxLen;omega) (by omega) hbase ?_
 intro v' w' hown hg _
 have hkeep:∀ (u':Value) (t':List Int),New base w u' t'→New base w' u' t':=fun u' t' hN'=>World.ownsRow.kept hN' hg (New.apartT hN' h1)
 refine h v' w' ⟨us++[.int .i64 (r:Int),.int .i64 (p:Int),u],by simpa using hown,fun j hj=>?_⟩ hg (ownsRow_succ hown)
 by_cases hjl:j < sts.length
 ·obtain ⟨u',q1,q2,q3,hN'⟩:=h2 j hjl
  rw [List.getElem?_append_left hjl,List.getElem?_append_left (by omega),List.getElem?_append_left (by omega),List.getElem?_append_left (by omega)]
  exact ⟨u',q1,q2,q3,hkeep u' _ hN'⟩
 ·have hje:j = sts.length:=by simp at hj;omega
  subst hje
  rw [List.getElem?_append_right (Nat.le_refl _),List.getElem?_append_right (by omega),List.getElem?_append_right (by omega),List.getElem?_append_right (by omega),hul]
  refine ⟨u,by simp,by simp,by simp,?_⟩
  simpa using hkeep u t hu
def NewP (base:Nat) (W:World) (v:Value) (ps:PairL):Prop :=
 ∃ us:List Value,W.ownsRow base 40 2 v ps.length us∧∀ j,j < ps.length→∃ u u',us[j * 2]? = some u∧us[j * 2+1]? = some u'∧New base W u (ps[j]?.getD ([],[])).1∧New base W u' (ps[j]?.getD ([],[])).2
theorem NewP.nil (base:Nat) (W:World):NewP base W (.slice none 0 0) []:=⟨[],World.ownsRow_nil _ _ _ _,fun j hj=>by simp at hj⟩
theorem New.apartP {base:Nat} {W:World} {u v:Value} {t:List Int} {n:Nat} {us:List Value} (hu:New base W u t) (hv:W.ownsRow base 40 2 v n us):u.ownBlock = none∨u.ownBlock≠v.ownBlock:=by
 rcases hu.2 with ⟨rfl,_⟩ | ⟨g,cap,cur,rfl,hb,hg,r⟩
 ·exact .inl rfl
 ·right
  rcases hv.2 with ⟨rfl,_⟩ | ⟨g',cap',cur',rfl,hb',hg',r'⟩
  ·intro e;cases e
  ·intro e
   simp only [Value.ownBlock,Option.some.injEq] at e
   subst e
   rw [hg] at hg'
   simp at hg'
theorem NewP.below {base:Nat} {W W':World} {v:Value} {ps:PairL} (h:NewP base W v ps) (hB:Below W.heap.size W W'):NewP base W' v ps:=by
 obtain ⟨us,h1,h2⟩:=h
 refine ⟨us,World.ownsRow.kept h1 (grown_of_below hB) (by cases h:v.ownBlock with | none=>exact .inl rfl | some k=>exact .inr (by simp)),fun j hj=>?_⟩
 obtain ⟨u,u',a,b,c,d⟩:=h2 j hj
 exact ⟨u,u',a,b,New.below c hB,New.below d hB⟩
theorem NewP.grown {base:Nat} {W W':World} {v:Value} {ps:PairL} {row:Option Nat} (h:NewP base W v ps) (hg:W.grownBy W' row) (hr:∀ k,row = some k→∀ cs p,W.heap[k]?≠some (.cells cs 40 p)∧W.heap[k]?≠some (.cells cs 3 p)):NewP base W' v ps:=by
 obtain ⟨us,h1,h2⟩:=h
 refine ⟨us,h1.kept hg (row_apart h1 fun k e cs p=>(hr k e cs p).1),fun j hj=>?_⟩
 obtain ⟨u,u',a,b,c,d⟩:=h2 j hj
 exact ⟨u,u',a,b,World.ownsRow.kept c hg (row_apart c fun k e cs p=>(hr k e cs p).2),World.ownsRow.kept d hg (row_apart d fun k e cs p=>(hr k e cs p).2)⟩
theorem NewP.set {base:Nat} {W:World} {v:Value} {ps:PairL} (h:NewP base W v ps) {B:Nat} {t:TypeId} {x:Value} (hb:Boxed W B t x) (h1:t≠40) (h2:t≠3) (y:Value):NewP base (W.setCell ⟨B,0,none⟩ y) v ps :=
 h.grown (grownBy_setCell' W B y) fun k e cs p=>by
  cases e
  exact ⟨boxed_ne hb h1 cs p,boxed_ne hb h2 cs p⟩
theorem NewP.other {base:Nat} {W W':World} {v:Value} {ps:PairL} {row:Option Nat} (h:NewP base W v ps) (hg:W.grownBy W' row) (hr:∀ r,row = some r→∃ o:Obj,W.heap[r]? = some o∧o.isCells = false):NewP base W' v ps :=
 h.grown hg fun k e cs p=>by
  obtain ⟨o,ho,hc⟩:=hr k e
  rw [ho]
  refine ⟨?_,?_⟩ <;> (intro h';simp only [Option.some.injEq] at h';subst h';simp [Obj.isCells] at hc)
theorem NewP.mono {base base':Nat} {W:World} {v:Value} {ps:PairL} (h:NewP base W v ps) (hb:base'≤base):NewP base' W v ps:=by
 obtain ⟨us,h1,h2⟩:=h
 refine ⟨us,⟨h1.1,h1.2.elim .inl (fun ⟨g,cap,cur,e1,e2,e3⟩=>.inr ⟨g,cap,cur,e1,Nat.le_trans hb e2,e3⟩)⟩,fun j hj=>?_⟩
 obtain ⟨u,u',a,b,c,d⟩:=h2 j hj
 exact ⟨u,u',a,b,c.mono hb,d.mono hb⟩
theorem NewP.block {base:Nat} {W:World} {v:Value} {ps:PairL} (h:NewP base W v ps) {k:Nat} (hk:v.ownBlock = some k):base≤k∧∃ cs p,W.heap[k]? = some (.cells cs 40 p):=by
 obtain ⟨us,h1,_⟩:=h
 rcases h1.2 with ⟨rfl,_⟩ | ⟨g,cap,cur,rfl,hb,hgb,_⟩
 ·cases hk
 ·obtain rfl:g = k:=by simpa [Value.ownBlock] using hk
  exact ⟨hb,_,_,hgb⟩
theorem NewP.slice {base:Nat} {W:World} {v:Value} {ps:PairL} (h:NewP base W v ps):∃ a cap,v = .slice a ps.length cap:=by
 obtain ⟨us,h1,_⟩:=h
 rcases h1.2 with ⟨rfl,h0⟩ | ⟨g,cap,cur,rfl,_⟩
 ·exact ⟨none,0,by rw [h0]⟩
 ·exact ⟨_,_,rfl⟩
theorem NewP.at {base:Nat} {W:World} {v:Value} {ps:PairL} (h:NewP base W v ps):∃ a cap,v = .slice a ps.length cap∧RulesAt W.heap.size W a ps∧ps.length≤cap∧cap≤maxLen:=by
 obtain ⟨us,h1,h2⟩:=h
 have hl:us.length = ps.length * 2:=h1.1
 rcases h1.2 with ⟨rfl,hn⟩ | ⟨g,cap,cur,rfl,hb,hgb,q1,q2,_⟩
 ·refine ⟨none,0,by rw [hn],fun k hk=>by omega,by omega,by omega⟩
 ·refine ⟨_,cap,rfl,fun j hj=>?_,q1,q2⟩
  obtain ⟨u,u',p1,p2,n1,n2⟩:=h2 j hj
  obtain ⟨a1,c1,rfl,i1,m1,m1'⟩:=New.ints n1
  obtain ⟨a2,c2,rfl,i2,m2,m2'⟩:=New.ints n2
  have cc:=fun k hk=>World.ownsRow.cellAt h1 k hk
  exact ⟨g,0,rfl,(Array.getElem?_eq_some_iff.1 hgb).1,a1,c1,a2,c2,by rw [Nat.zero_add,cc _ (by omega),p1],by rw [Nat.zero_add,cc _ (by omega),p2],i1,i2,m1,m1',m2,m2'⟩
theorem Tryz.infoPairs:Tryz.prog.underlying 24 = some (.slice 40):=by kernel_rfl
theorem wpi_append_pair {F:Fence} {n:Nat} {ops:Array Oper} {rest:List Oper} {o:Oper} {a:Act} {Q:Exit→Act→World→Prop} (w:World) (hgd:o.guard = none) (s x:Operand)
 (ho:o.op = .call { callee:=.builtin .append,args:=#[s,x],argTypes:=#[24,24] }) (base:Nat) (v:Value) (ps:PairL) (hs:a.eval s = v) (hN:NewP base w v ps)
 (u u2:Value) (t t2:List Int) (B:Nat) (hx:a.eval x = .slice (some ⟨B,0,none⟩) 1 1) (hB0:w.cell? ⟨B,0,none⟩ = some u) (hB1:w.cell? ⟨B,1,none⟩ = some u2) (hu:New base w u t) (hu2:New base w u2 t2) (hlen:ps.length≤1000000) (hbase:base≤w.heap.size)
 (h:∀ v' w',NewP base w' v' (ps++[(t,t2)])→w.grownBy w' v.ownBlock→(∃ g cap,v' = .slice (some ⟨g,0,none⟩) (ps.length+1) cap)→wpListIn F n Tryz.prog ops Q rest (a.put o.dst v') w'):wpListIn F n Tryz.prog ops Q (o :: rest) a w:=by
 obtain ⟨i0,hi,hz0,hz1,hz2⟩:=info_parts Tryz.info40
 obtain ⟨us,h1,h2⟩:=hN
 have hul:us.length = ps.length * 2:=h1.1
 refine wpListIn_append_own w hgd s x 24 ho base 40 i0 (.agg #[.slice none 0 0,.slice none 0 0]) 2 48 Tryz.infoPairs hi hz0 hz1 hz2 rfl (by decide) v ps.length us hs h1 ⟨B,0,none⟩ 1 1 [u,u2] hx (by simp)
  (by intro j z hj
      match j,hj with
      | 0,hj=>simp at hj;subst hj;rw [Go.WideShapes.add_plain];simpa using hB0
      | 1,hj=>simp at hj;subst hj;rw [Go.WideShapes.add_plain];simpa using hB1)
  (by intro z hz;simp at hz;obtain ⟨_,_,rfl,_⟩:=New.ints hu;obtain ⟨_,_,rfl,_⟩:=New.ints hu2;rcases hz with rfl | rfl <;> rfl) (by unfold maxLen;omega) (by omega) hbase ?_
 intro v' w' hown hg _
 have hkeep:∀ (u':Value) (t':List Int),New base w u' t'→New base w' u' t':=fun u' t' hN'=>World.ownsRow.kept hN' hg (New.apartP hN' h1)
 refine h v' w' ⟨us++[u,u2],by simpa using hown,fun j hj=>?_⟩ hg (ownsRow_succ hown)
 by_cases hjl:j < ps.length
 ·obtain ⟨y,y',q1,q2,n1,n2⟩:=h2 j hjl
  rw [List.getElem?_append_left hjl,List.getElem?_append_left (by omega),List.getElem?_append_left (by omega)]
  exact ⟨y,y',q1,q2,hkeep y _ n1,hkeep y' _ n2⟩
 ·have hje:j = ps.length:=by simp at hj;omega
  subst hje
  rw [List.getElem?_append_right (Nat.le_refl _),List.getElem?_append_right (by omega),List.getElem?_append_right (by omega),hul]
  refine ⟨u,u2,by simp,by simp,?_,?_⟩
  ·simpa using hkeep u t hu
  ·simpa using hkeep u2 t2 hu2
end Go.Proofs.YtglohanbpjaieaaGreat
namespace Go.Proofs.YtglohanbpjaieaaGreat
open Go.Proofs Go.RowKit Go.Shelf
attribute [local go_sem] Oper.semAt_some
set_option maxHeartbeats 400000 in
theorem placesx_in (F:Fence) (hF:Pl F) (n:Nat) (a:Option Addr) (len cap:Nat) (w:World) :
 CallsIn F n Tryz.prog 50 #[.slice a len cap] w fun e w'=>e = .returned (.func (.func 70) #[] #[.pointer (some ⟨w.heap.size,0,none⟩)]) ∧
  w' = w.alloc (.cells #[.slice a len cap] 35):=by
 obtain ⟨hro,hfn,hdd⟩:=fx_facts hF
 have hf:=hfn _ _ Tryz.func50
 clear hF hfn
 refine callsIn_of_wp Tryz.func50 rfl hf ?_ hro
 simp only [Tryz.ntmps50,List.size_toArray,List.length_cons,List.length_nil,Nat.reduceAdd,Nat.reduceSub,Array.replicate_succ,Array.replicate_zero,List.push_toArray,List.append_toArray,List.nil_append,List.cons_append]
 gi_wp2
 go_ret
 exact ⟨rfl,rfl⟩
def encPl (zs:List Int) (i:Nat):Array Value:=#[.int .i64 (i:Int),.int .i64 (Tm.endAt zs i:Int)]
def PlacesRd (Bt cap:Nat) (a:Option Addr) (zs:List Int) (W:World):Prop:=W.cell? ⟨Bt,0,none⟩ = some (.slice a zs.length cap)∧Ints W.heap.size W a zs
set_option maxRecDepth 100000 in
set_option maxHeartbeats 1000000 in
theorem places_steps (F:Fence) (hF:Pl F) (n Bt cap:Nat) (a:Option Addr) (zs:List Int) (hlen:zs.length≤5000) :
 SeqSteps F n Tryz.prog 70 #[.pointer (some ⟨Bt,0,none⟩)] (encPl zs) zs.length (PlacesRd Bt cap a zs):=by
 intro l J Jx Jp W hJ hR hY h0
 obtain ⟨hro,hfn,hdd⟩:=fx_facts hF
 have HE:=hid (fun n p W h2 h3=>endx_all F hF zs hlen a cap _ p n (Nat.le_refl _) h2 W h3)
 clear hF
 have hf55:=hfn _ _ Tryz.func70
 have hf32:=hfn _ _ Tryz.func69
 obtain ⟨hbt,_⟩:=hR 0 W h0
 have hl5:(zs.length:Int)≤5000:=by omega
 have HY:=hid hY
 have HR:=hid hR
 clear hY hR
 refine callsIn_of_wp Tryz.func70 rfl hf55 ?_ hro
 simp only [Tryz.ntmps70,List.size_toArray,List.length_cons,List.length_nil,Nat.reduceAdd,Nat.reduceSub,Array.replicate_succ,Array.replicate_zero,List.push_toArray,List.append_toArray,List.nil_append,List.cons_append]
 gi_wp2
 gi_loopw [6] (fun i wr=>∃ m:Nat,m≤zs.length∧i = .int .i64 (m:Int)∧J m wr) (fun i _=>zs.length - (intOf i).toNat)
 case atStart=>exact ⟨0,Nat.zero_le _,rfl,h0⟩
 case round =>
  obtain ⟨m,hm,rfl,hJs⟩:=hrel
  obtain ⟨hbt',hI'⟩:=HR.out m wr hJs
  by_cases hlt:m < zs.length
  ·have hlt':(m:Int) < (zs.length:Int):=by omega
   have h1':=(HE.out (n - 1) m wr (by omega) hI').mono (R':=fun e W1=>e = .returned (.int .i64 (Tm.endAt zs m:Int))∧YieldAt F (n - 1) Tryz.prog l #[.int .i64 (m:Int),.int .i64 (Tm.endAt zs m:Int)] W1 fun e W' =>
    (e = .returned (.bool true)∧J (m+1) W')∨(e = .returned (.bool false)∧Jx W')∨∃ ch,e = .panicked ch∧Jp ch W')
    (fun e W1 ⟨he,hB⟩=>⟨he,by
      have hJ1:=hJ _ _ _ none hJs (grown_of_below hB) (fun r e=>by cases e)
      refine YieldAt.mono (HY.out m W1 hJ1 hlt) fun e W2 h=>?_
      exact h⟩)
   gi_wp2_with (first
    | ((try refine ⟨hdd _,?_⟩);gi_at_call 69;refine h1'.mono ?_;clear h1';rintro e W1 ⟨rfl,fn,tmps,assign,body,hy,hR⟩)
    | ((try refine ⟨hdd _,?_⟩);refine hR.mono ?_;clear hR;rintro e W2 (⟨rfl,hJ2⟩ | ⟨rfl,hx2⟩ | ⟨ch,rfl,hp2⟩)))
   ·exact ⟨⟨m+1,by omega,by go_num,hJ2⟩,by simp [intOf];omega⟩
   ·refine bodyPost_ret (results_none rfl _ _ _) rfl ?_
    exact .inl ⟨⟨_,rfl⟩,.inr hx2⟩
   ·exact ⟨rfl,.inr ⟨ch,rfl,hp2⟩⟩
  ·obtain rfl:m = zs.length:=by omega
   have hlt':¬ (zs.length:Int) < (zs.length:Int):=by omega
   gi_wp2
   go_end0
   exact .inl ⟨⟨_,rfl⟩,.inl hJs⟩
end Go.Proofs.YtglohanbpjaieaaGreat
