/-
  Parts of the proof: Prs2, Prs3, Web23, Web24, Web25, Uni1, Lit, Uni2, Uni3.
-/
import Derived.Test.YtglohanbpjaieaaGreatBct3
import Derived.Test.YtglohanbpjaieaaGreatBct12
import Derived.Test.YtglohanbpjaieaaGreatBct9
import Derived.Test.YtglohanbpjaieaaGreatBct6
import Derived.Test.YtglohanbpjaieaaGreatBct2
import Derived.Test.YtglohanbpjaieaaGreatBct1
namespace Go.Proofs.YtglohanbpjaieaaGreat
open Go.Proofs Go.RowKit Go.Shelf Go.Maps
def Tm.plain2 (t u:List Int):List Int:=Tm.plainTo (Tm.seenFrom [] t) u u.length
set_option maxRecDepth 100000 in
set_option maxHeartbeats 1000000 in
theorem plain_two (t u:List Int) (at' au:Option Addr) (ct cu B:Nat) (w:World) (ht:t.length≤100) (hu:u.length≤100) (h8:∀ k,k < t.length→-8≤t[k]?.getD 0) (h6:∀ k,k < t.length→t[k]?.getD 0 < 6) (g8:∀ k,k < u.length→-8≤u[k]?.getD 0) (g6:∀ k,k < u.length→u[k]?.getD 0 < 6)
 (hB:w.cell? ⟨B,0,none⟩ = some (.slice at' t.length ct)) (hB':w.cell? ⟨B,1,none⟩ = some (.slice au u.length cu)) (hT:Ints w.heap.size w at' t) (hU:Ints w.heap.size w au u) :
 Calls Tryz.prog 90 #[.slice (some ⟨B,0,none⟩) 2 2] w fun e w'=>∃ v,e = .returned v∧NewS w.heap.size w' v [Tm.plain t,Tm.plain2 t u]∧Below w.heap.size w w':=by
 have hmf:∀ (fn:Fn) (first cap:Array Value) (w:World),(Instr.makeFunc fn first cap).run Tryz.prog w = .ok (.func fn first cap) w:=fun _ _ _ _=>rfl
 have hmm:=@run_makeMap Tryz.prog
 have hBl:=lt_of_cell hB
 have HT:=hid hT
 have HU:=hid hU
 have HB:=hid hB
 have HB':=hid hB'
 have H8:=hid h8
 have H6:=hid h6
 have G8:=hid g8
 have G6:=hid g6
 clear hT hB hU hB' h8 h6 g8 g6
 go_enter Tryz.func90,Tryz.ntmps90
 go_wp2
 have hB0:Below w.heap.size w ((w.alloc (.map #[] 0)).alloc (.cells #[.map (some w.heap.size)] 154)):=((Below.refl _ _).alloc (Nat.le_refl _) _).alloc (by simp) _
 have hF0:FreshAt ((w.alloc (.map #[] 0)).alloc (.cells #[.map (some w.heap.size)] 154)) (w.heap.size+1) w.heap.size [] :=
  ⟨cell_new (w.alloc (.map #[] 0)) (.map (some w.heap.size)) 154 (w.heap.size+1) (by simp),.map [],(World.ownsMap_made w Tryz.prog 3 (plainElem Tryz.prog 3)).alloc _,MapIs.empty⟩
 have hsz:((w.alloc (.map #[] 0)).alloc (.cells #[.map (some w.heap.size)] 154)).heap.size = w.heap.size+2:=by simp
 obtain ⟨W0,hW0⟩:∃ W0,(w.alloc (.map #[] 0)).alloc (.cells #[.map (some w.heap.size)] 154) = W0:=⟨_,rfl⟩
 rw [hW0] at hB0 hF0 hsz ⊢
 clear hW0
 have Hsz:=hid hsz
 clear hsz
 go_loopw [5,12] (fun v i wr=>(i = .int .i64 0∧v = .slice none 0 0∧wr = W0)∨(i = .int .i64 1∧NewS W0.heap.size wr v [Tm.plain t]∧FreshAt wr (w.heap.size+1) w.heap.size (Tm.seenFrom [] t)∧Below w.heap.size w wr∧W0.heap.size≤wr.heap.size)∨(i = .int .i64 2∧NewS w.heap.size wr v [Tm.plain t,Tm.plain2 t u]∧Below w.heap.size w wr)) (fun _ i _=>2 - (intOf i).toNat)
 case atStart=>exact .inl ⟨rfl,rfl,rfl⟩
 case round =>
  rcases hrel with ⟨rfl,rfl,rfl⟩ | ⟨rfl,hN0,hF,hB,hW⟩ | ⟨rfl,hN,hB⟩
  ·have hcB:=(hB0.cell (p:=⟨B,0,none⟩) hBl).trans HB.out
   have hC:=change_rename [] t at' ct (w.heap.size+1) w.heap.size wr ht (by simp) H8.out H6.out hF0 ((HT.out.below hB0).mono hB0.size)
   have Hlen:=hid (Tm.plainTo_length [] t t.length)
   have hpd:Tm.plainTo [] t t.length = Tm.plain t:=rfl
   rw [hpd] at hC Hlen
   clear hpd
   generalize Tm.plain t = pt at *
   go_wp2_with fail
   refine hC.mono ?_
   rintro e w1 ⟨v,rfl,hN,hF1,hK⟩
   clear hC
   obtain ⟨a1,c1,rfl,_⟩:=New.ints hN
   have hB1:Below w.heap.size w w1:=hB0.trans ((hK.mono hB0.size).below (Nat.le_refl _))
   have Hu:=hid (hN.alloc (.cells #[.slice a1 pt.length c1] 35))
   have Hcn:=hid (cell_new w1 (.slice a1 pt.length c1) 35 w1.heap.size rfl)
   have hA:Below w.heap.size w (w1.alloc (.cells #[.slice a1 pt.length c1] 35)):=hB1.alloc hB1.size _
   have hA1:Below w1.heap.size w1 (w1.alloc (.cells #[.slice a1 pt.length c1] 35)):=(Below.refl _ _).alloc (Nat.le_refl _) _
   have HF1:=hid hF1
   have hs1:=hK.size
   clear hN hK hF1
   go_wp2_with (at_builtin;go_loud (refine wp_append_sub _ rfl _ _ rfl wr.heap.size _ [] rfl (NewS.nil _ _) (.slice a1 pt.length c1) pt w1.heap.size rfl Hcn.out Hu.out (by simp) (by have:=hA1.size;omega) ?_);intro v' w5 hN5 hB5;obtain ⟨a5,c5,rfl,_⟩:=NewS.subs hN5)
   go_roundw
   case rel =>
    have hs:=Hsz.out
    have hsl:=hA1.size
    have hs5:=hB5.size
    refine .inr (.inl ⟨rfl,hN5,HF1.out.keep ?_ ?_,hA.trans (hB5.mono (by omega)),by omega⟩)
    ·exact (hB5.block _ (by omega)).trans (hA1.block _ (by omega))
    ·exact (hB5.block _ (by omega)).trans (hA1.block _ (by omega))
   case measure=>simp [intOf]
  ·have hcB:=(hB.cell (p:=⟨B,1,none⟩) hBl).trans HB'.out
   have hsn:=Tm.seen_len t []
   have hC:=change_rename (Tm.seenFrom [] t) u au cu (w.heap.size+1) w.heap.size wr hu (by simp at hsn;omega) G8.out G6.out hF ((HU.out.below hB).mono hB.size)
   have Hlen:=hid (Tm.plainTo_length (Tm.seenFrom [] t) u u.length)
   have hpd:Tm.plainTo (Tm.seenFrom [] t) u u.length = Tm.plain2 t u:=rfl
   rw [hpd] at hC Hlen
   have HN0:=hid hN0
   obtain ⟨a0,c0,rfl,_⟩:=NewS.subs hN0
   clear hpd hsn hN0
   generalize Tm.plain2 t u = pu at *
   generalize Tm.plain t = pt at *
   go_wp2_with fail
   refine hC.mono ?_
   rintro e w1 ⟨v,rfl,hN,_,hK⟩
   clear hC
   obtain ⟨a1,c1,rfl,_⟩:=New.ints hN
   have hB1:Below w.heap.size w w1:=hB.trans ((hK.mono hB.size).below (Nat.le_refl _))
   have hN1:=hid (HN0.out.keepFrom (fun q h1 h2=>hK.block q h2 (by have:=Hsz.out;omega)) hK.size)
   have Hu:=hid ((hN.mono hW).alloc (.cells #[.slice a1 pu.length c1] 35))
   have Hcn:=hid (cell_new w1 (.slice a1 pu.length c1) 35 w1.heap.size rfl)
   have hA:Below w.heap.size w (w1.alloc (.cells #[.slice a1 pu.length c1] 35)):=hB1.alloc hB1.size _
   have hA1:Below w1.heap.size w1 (w1.alloc (.cells #[.slice a1 pu.length c1] 35)):=(Below.refl _ _).alloc (Nat.le_refl _) _
   have hs1:=hK.size
   clear hN hK HN0
   go_wp2_with (at_builtin;go_loud (refine wp_append_sub _ rfl _ _ rfl W0.heap.size _ [pt] rfl (hN1.out.alloc _) (.slice a1 pu.length c1) pu w1.heap.size rfl Hcn.out Hu.out (by simp) (by have:=hA1.size;omega) ?_);intro v' w5 hN5 hB5;obtain ⟨a5,c5,rfl,_⟩:=NewS.subs hN5)
   go_roundw
   case rel=>exact .inr (.inr ⟨rfl,hN5.mono hB0.size,hA.trans (hB5.mono hB0.size)⟩)
   case measure=>simp [intOf]
  ·obtain ⟨a5,c5,rfl,_⟩:=NewS.subs hN
   go_wp2
   go_ret
   exact ⟨_,rfl,hN,hB⟩
def Tm.prtErr (ss:List (List Int)) (L1 R1:List Int) (k:Int) (R2:List Int):Int:=if Tm.putErr L1 k R2 = 0 then (if Tm.applyErr ss (Tm.putVal L1 k R2) = 0 then Tm.applyErr ss R1 else Tm.applyErr ss (Tm.putVal L1 k R2)) else Tm.putErr L1 k R2
def Tm.prtVal (ss:List (List Int)) (L1 R1:List Int) (k:Int) (R2:List Int):List Int × List Int:=if Tm.prtErr ss L1 R1 k R2 = 0 then (Tm.plain (Tm.applyVal ss (Tm.putVal L1 k R2)),Tm.plain2 (Tm.applyVal ss (Tm.putVal L1 k R2)) (Tm.applyVal ss R1)) else ([],[])
theorem Tm.applyVal_err {ss:List (List Int)} {t:List Int} (h:Tm.applyErr ss t = 0):Tm.err (Tm.applyVal ss t) = 0:=by
 by_cases hs:Tm.subErr ss = 0
 ·by_cases ht:Tm.err t = 0
  ·unfold Tm.applyVal
   rw [if_pos h]
   unfold Tm.applyErr at h
   rw [if_pos hs,if_pos ht] at h
   by_cases h3:30 < (Tm.applied ss t).length
   ·rw [if_pos h3] at h;omega
   ·exact Tm.err_applied (Terms.of hs) ht (by omega)
  ·unfold Tm.applyErr at h
   rw [if_pos hs,if_neg ht] at h
   exact absurd h ht
 ·unfold Tm.applyErr at h
  rw [if_neg hs] at h
  exact absurd h hs
theorem results_agg2 {fn:Func} {tmps:Array Value} {w:World} {a b B:Nat} {x y:Value} (h:fn.results = #[.cell a 40,.tmp b]) (ha:tmps.getD a undef = .pointer (some ⟨B,0,none⟩)) (hb:Box2 w B 40 x y):(results fn tmps).run Tryz.prog w = .ok (.tuple #[.agg #[x,y],tmps.getD b undef]) w:=by
 have ha':tmps[a]?.getD undef = .pointer (some ⟨B,0,none⟩):=by rw [← ha];simp
 simp only [results,h]
 simp [go_sem,ha',hb.cell0,hb.cell1]
def PaR (n:Nat) (W:World) (e:Exit) (b:Act) (w4:World):Prop:=e = .normal∧b.tmps.getD 8 undef = .pointer (some ⟨n,0,none⟩)∧b.tmps.getD 9 undef = .int .i64 0∧b.defers = []∧w4 = W.drew
theorem PaR.panic {n:Nat} {b:Act} {W w4:World} {c:_} {G:Prop} (H:PaR n W (.panic c) b w4):G:=by
 cases H.1
theorem NewS.two {base:Nat} {W:World} {v:Value} {p q:List Int} (h:NewS base W v [p,q]):∃ g cap u0 u1,v = .slice (some ⟨g,0,none⟩) 2 cap∧base≤g∧W.cell? ⟨g,0,none⟩ = some u0∧W.cell? ⟨g,1,none⟩ = some u1∧New base W u0 p∧New base W u1 q:=by
 obtain ⟨us,h1,h2⟩:=h
 obtain ⟨u0,e0,n0⟩:=h2 0 (by simp)
 obtain ⟨u1,e1,n1⟩:=h2 1 (by simp)
 rcases h1.2 with ⟨rfl,hn⟩ | ⟨g,cap,cur,rfl,hb,r⟩
 ·simp at hn
 ·have cc:=fun k hk=>World.ownsRow.cellAt h1 k hk
  exact ⟨g,cap,u0,u1,rfl,hb,by rw [cc 0 (by simp),e0],by rw [cc 1 (by simp),e1],n0,n1⟩
set_option maxRecDepth 100000 in
set_option maxHeartbeats 4000000 in
theorem parted_any (ss:List (List Int)) (L1 R1 R2:List Int) (k:Int) (a1 b1 a2 b2 aS:Option Addr) (c1 d1 n2 c2 d2 cs:Nat) (w:World) (hL1:Ints w.heap.size w a1 L1) (hR1:Ints w.heap.size w b1 R1) (hR2:Ints w.heap.size w b2 R2) (hS:Subs w.heap.size w aS ss) (h1:L1.length≤c1) (h2:c1≤maxLen) :
 Calls Tryz.prog 107 #[.agg #[.slice a1 L1.length c1,.slice b1 R1.length d1],.agg #[.slice a2 n2 c2,.slice b2 R2.length d2],.int .i64 k,.slice aS ss.length cs] w fun e w'=>∃ v u,e = .returned (.tuple #[.agg #[v,u],.int .i64 (Tm.prtErr ss L1 R1 k R2)])∧New w.heap.size w' v (Tm.prtVal ss L1 R1 k R2).1∧New w.heap.size w' u (Tm.prtVal ss L1 R1 k R2).2∧Below w.heap.size w w':=by
 obtain ⟨W3,hW3⟩:∃ W3,((w.alloc (.cells #[.slice a1 L1.length c1,.slice b1 R1.length d1] 54)).alloc (.cells #[.slice a2 n2 c2,.slice b2 R2.length d2] 54)).alloc (.cells #[.slice none 0 0,.slice none 0 0] 40) = W3:=⟨_,rfl⟩
 have hs3:W3.heap.size = w.heap.size+3:=by rw [← hW3];simp
 have hB3:Below w.heap.size w W3:=by rw [← hW3];exact (((Below.refl _ w).alloc (Nat.le_refl _) _).alloc (by simp) _).alloc (by simp;omega) _
 have bx:Box2 W3 w.heap.size 54 (.slice a1 L1.length c1) (.slice b1 R1.length d1):=by rw [← hW3];exact ((Box2.new w 54 _ _).alloc _).alloc _
 have by':Box2 W3 (w.heap.size+1) 54 (.slice a2 n2 c2) (.slice b2 R2.length d2):=by
  rw [← hW3]
  have h:=Box2.new (w.alloc (.cells #[.slice a1 L1.length c1,.slice b1 R1.length d1] 54)) 54 (.slice a2 n2 c2) (.slice b2 R2.length d2)
  rw [World.size_alloc] at h
  exact h.alloc _
 have bz:Box2 W3 (w.heap.size+1+1) 40 (.slice none 0 0) (.slice none 0 0):=by
  rw [← hW3]
  have h:=Box2.new ((w.alloc (.cells #[.slice a1 L1.length c1,.slice b1 R1.length d1] 54)).alloc (.cells #[.slice a2 n2 c2,.slice b2 R2.length d2] 54)) 40 (.slice none 0 0) (.slice none 0 0)
  simpa only [World.size_alloc] using h
 have hbx:Hid (∀ W,Below W3.heap.size W3 W→Box2 W w.heap.size 54 (.slice a1 L1.length c1) (.slice b1 R1.length d1)∧Box2 W (w.heap.size+1+1) 40 (.slice none 0 0) (.slice none 0 0)):=fun W hW=>⟨bx.below hW bx.lt,bz.below hW bz.lt⟩
 have k30:=bx.cell0
 have k31:=bx.cell1
 have k41:=by'.cell1
 have C1:=hid (termPut_any L1 R2 a1 b2 c1 d2 k W3 ((hL1.below hB3).mono hB3.size) ((hR2.below hB3).mono hB3.size) h1 h2)
 have C2:=hid (fun W (hW:Below W3.heap.size W3 W) (t:List Int) x c (hI:Ints W.heap.size W x t)=>apply_any ss t aS x cs c W (((((hS.below hB3).mono hB3.size).below hW).mono hW.size)) hI)
 have C3:=hid (fun W (hW:Below W3.heap.size W3 W)=>apply_any ss R1 aS b1 cs d1 W (((((hS.below hB3).mono hB3.size).below hW).mono hW.size)) ((((hR1.below hB3).mono hB3.size).below hW).mono hW.size))
 have mixed:Tryz.prog.follows .mixedOrders = true:=by kernel_rfl
 have HW3:=hid hW3
 have HB3:=hid hB3
 clear hW3 hL1 hR1 hR2 hS h1 h2 bx by' bz hB3
 by_cases he1:Tm.putErr L1 k R2 = 0
 ·rw [he1] at C1
  by_cases he2:Tm.applyErr ss (Tm.putVal L1 k R2) = 0
  ·by_cases he3:Tm.applyErr ss R1 = 0
   ·have PE:Hid (Tm.prtErr ss L1 R1 k R2 = 0):=by show _ = _;unfold Tm.prtErr;rw [if_pos he1,if_pos he2,he3]
    have PV:Hid (Tm.prtVal ss L1 R1 k R2 = (Tm.plain (Tm.applyVal ss (Tm.putVal L1 k R2)),Tm.plain2 (Tm.applyVal ss (Tm.putVal L1 k R2)) (Tm.applyVal ss R1))):=by show _ = _;unfold Tm.prtVal;rw [if_pos PE.out]
    have eX:=hid (Tm.applyVal_err he2)
    have eY:=hid (Tm.applyVal_err he3)
    have C2':=hid (fun W hW x c hI=>C2.out W hW (Tm.putVal L1 k R2) x c hI)
    rw [he2] at C2'
    rw [he3] at C3
    clear he1 he2 he3 C2
    generalize Tm.applyVal ss (Tm.putVal L1 k R2) = X at *
    generalize Tm.applyVal ss R1 = Y at *
    generalize Tm.putVal L1 k R2 = P at *
    go_enter Tryz.func107,Tryz.ntmps107
    go_wp2_with fail
    rw [HW3.out]
    refine C1.out.mono ?_
    rintro e w1 ⟨v1,rfl,hN1,b1⟩
    obtain ⟨x1,e1,rfl,hI1,_⟩:=New.ints hN1
    have q1:=hbx.out w1 b1
    have k10:=q1.1.cell0
    have k11:=q1.1.cell1
    have k20:=q1.2.cell0
    have k21:=q1.2.cell1
    have f20:=q1.2.frozen 0
    have f21:=q1.2.frozen 1
    have k21':=(q1.2.set0 (.slice none 0 0)).cell1
    have f21':=(q1.2.set0 (.slice none 0 0)).frozen 1
    clear C1 hN1
    go_wp2_with fail
    refine (C2'.out w1 b1 x1 e1 hI1).mono ?_
    rintro e w2 ⟨v2,rfl,hN2,b2⟩
    obtain ⟨x2,e2,rfl,hI2,_⟩:=New.ints hN2
    have B2:=b1.trans (b2.mono b1.size)
    have q2:=hbx.out w2 B2
    clear C2' hI1 hN2 b2 k10 k11 k20 k21 f20 f21 k21' f21'
    have k21:=q2.1.cell1
    go_wp2_with fail
    refine (C3.out w2 B2).mono ?_
    rintro e w3 ⟨v3,rfl,hN3,b3⟩
    obtain ⟨x3,e3,rfl,hI3,_⟩:=New.ints hN3
    have B3:=B2.trans (b3.mono B2.size)
    have I2:=(hI2.below b3).mono b3.size
    have hA:Below w3.heap.size w3 (w3.alloc (.cells #[.slice x2 X.length e2,.slice x3 Y.length e3] 35)):=(Below.refl _ _).alloc (Nat.le_refl _) _
    have blk:=World.alloc_heap_new w3 (.cells #[.slice x2 X.length e2,.slice x3 Y.length e3] 35)
    have lX:=Tm.err_len eX.out
    have lY:=Tm.err_len eY.out
    have C4:=hid (plain_two X Y x2 x3 e2 e3 w3.heap.size (w3.alloc (.cells #[.slice x2 X.length e2,.slice x3 Y.length e3] 35)) (by omega) (by omega) (Tm.known8 eX.out) (Tm.known6 eX.out) (Tm.known8 eY.out) (Tm.known6 eY.out) ((cell_at blk 0).trans rfl) ((cell_at blk 1).trans rfl) ((I2.below hA).mono hA.size) ((hI3.below hA).mono hA.size))
    have BA:=B3.trans (hA.mono B3.size)
    have HB3':=hid B3
    clear C3 hI2 hN3 b3 I2 hI3 blk B2 q2 k21 B3 hA
    go_wp2_with fail
    refine C4.out.mono ?_
    rintro e w4 ⟨v4,rfl,hN4,b4⟩
    obtain ⟨g,cp,u0,u1,rfl,hg,z0,z1,n0,n1⟩:=NewS.two hN4
    obtain ⟨x8,c8,rfl,_⟩:=New.ints n0
    obtain ⟨x9,c9,rfl,_⟩:=New.ints n1
    have B4:=BA.trans (b4.mono BA.size)
    have hsz4:w3.heap.size≤(w3.alloc (.cells #[.slice x2 X.length e2,.slice x3 Y.length e3] 35)).heap.size:=by simp
    have q4:=hbx.out w4 B4
    have hne:w.heap.size+1+1 < w3.heap.size:=by have:=HB3'.out.size;omega
    have k20:=q4.2.cell0
    have k21:=q4.2.cell1
    have f20:=q4.2.frozen 0
    have f21:=q4.2.frozen 1
    have k21':=(q4.2.set0 (.slice x8 (Tm.plain X).length c8)).cell1
    have f21':=(q4.2.set0 (.slice x8 (Tm.plain X).length c8)).frozen 1
    have N0:=hid n0
    have N1:=hid n1
    have HB4:=hid B4
    clear C4 hN4 b4 BA n0 n1 B4
    generalize Tm.plain X = pX at *
    generalize Tm.plain2 X Y = pY at *
    go_wp2_with fail
    refine wp_mono (Q:=PaR (w.heap.size+1+1) ((w4.setCell ⟨w.heap.size+1+1,0,none⟩ (.slice x8 pX.length c8)).setCell ⟨w.heap.size+1+1,1,none⟩ (.slice x9 pY.length c9))) ?reg ?aft
    case reg =>
     refine wp_region_any mixed ?_
     change wpAny _ _ _ _ _ _ _ (World.drew _)
     show wpAny _ _ _ _ 9 (Array.replicate 9 false) _ _
     refine wpAny_take (i:=0) (v:=.slice (some ⟨g,0,none⟩) 2 cp) rfl (by kernel_rfl) (by kernel_rfl) (by kernel_rfl) (fun _ _ _ h=>h.panic) (Or.inl ⟨by rfl,fun w=>by go_simp⟩) ?_
     refine wpAny_take (i:=3) (v:=.slice (some ⟨g,0,none⟩) 2 cp) rfl (by kernel_rfl) (by kernel_rfl) (by kernel_rfl) (fun _ _ _ h=>h.panic) (Or.inl ⟨by rfl,fun w=>by go_simp⟩) ?_
     refine wpAny_take (i:=1) (v:=.pointer (some ⟨g,0,none⟩)) rfl (by kernel_rfl) (by kernel_rfl) (by kernel_rfl) (fun _ _ _ h=>h.panic) (Or.inl ⟨by rfl,fun w=>by go_simp⟩) ?_
     refine wpAny_take (i:=4) (v:=.pointer (some ⟨g,1,none⟩)) rfl (by kernel_rfl) (by kernel_rfl) (by kernel_rfl) (fun _ _ _ h=>h.panic) (Or.inl ⟨by rfl,fun w=>by go_simp⟩) ?_
     refine wpAny_ready (rs:=[2,5]) (by kernel_rfl) (by simp) ?_
     refine AllReady.cons rfl (fun K hK=>?_) (AllReady.cons rfl (fun K hK=>?_) AllReady.nil)
     ·go_simp
      refine hK _ _ ?_
      clear hK K
      refine wpAny_ready (rs:=[5]) (by kernel_rfl) (by simp) ?_
      refine AllReady.cons rfl (fun K hK=>?_) AllReady.nil
      go_simp
      refine hK _ _ ?_
      clear hK K
      refine wpAny_take (i:=6) (v:=.agg #[.slice x8 pX.length c8,.slice x9 pY.length c9]) rfl (by kernel_rfl) (by kernel_rfl) (by kernel_rfl) (fun _ _ _ h=>h.panic) (Or.inl ⟨by rfl,fun w=>by go_simp⟩) ?_
      refine wpAny_ready (rs:=[7]) (by kernel_rfl) (by simp) ?_
      refine AllReady.cons rfl (fun K hK=>?_) AllReady.nil
      go_simp
      refine hK _ _ ?_
      clear hK K
      refine wpAny_ready (rs:=[8]) (by kernel_rfl) (by simp) ?_
      refine AllReady.cons rfl (fun K hK=>?_) AllReady.nil
      go_simp
      refine hK _ _ ?_
      clear hK K
      refine wpAny_done (by kernel_rfl) ?_ _
      exact ⟨rfl,rfl,rfl,rfl,rfl⟩
     ·go_simp
      refine hK _ _ ?_
      clear hK K
      refine wpAny_ready (rs:=[2]) (by kernel_rfl) (by simp) ?_
      refine AllReady.cons rfl (fun K hK=>?_) AllReady.nil
      go_simp
      refine hK _ _ ?_
      clear hK K
      refine wpAny_take (i:=6) (v:=.agg #[.slice x8 pX.length c8,.slice x9 pY.length c9]) rfl (by kernel_rfl) (by kernel_rfl) (by kernel_rfl) (fun _ _ _ h=>h.panic) (Or.inl ⟨by rfl,fun w=>by go_simp⟩) ?_
      refine wpAny_ready (rs:=[7]) (by kernel_rfl) (by simp) ?_
      refine AllReady.cons rfl (fun K hK=>?_) AllReady.nil
      go_simp
      refine hK _ _ ?_
      clear hK K
      refine wpAny_ready (rs:=[8]) (by kernel_rfl) (by simp) ?_
      refine AllReady.cons rfl (fun K hK=>?_) AllReady.nil
      go_simp
      refine hK _ _ ?_
      clear hK K
      refine wpAny_done (by kernel_rfl) ?_ _
      exact ⟨rfl,rfl,rfl,rfl,rfl⟩
    case aft =>
     rintro e b w5 ⟨rfl,t8,t9,hd,rfl⟩
     go_wp2
     (try simp only [Exit.inBlock,Exit.then])
     have hk:∀ q,w3.heap.size≤q→((w4.setCell ⟨w.heap.size+1+1,0,none⟩ (.slice x8 pX.length c8)).setCell ⟨w.heap.size+1+1,1,none⟩ (.slice x9 pY.length c9)).heap[q]? = w4.heap[q]?:=fun q hq=>(Below.heap_setCell _ _ _ q (show q≠w.heap.size+1+1 by omega)).trans (Below.heap_setCell _ _ _ q (show q≠w.heap.size+1+1 by omega))
     have hb2:Box2 (World.drew ((w4.setCell ⟨w.heap.size+1+1,0,none⟩ (.slice x8 pX.length c8)).setCell ⟨w.heap.size+1+1,1,none⟩ (.slice x9 pY.length c9))) (w.heap.size+1+1) 40 (.slice x8 pX.length c8) (.slice x9 pY.length c9):=(q4.2.set0 _).set1 _
     refine bodyPost_ret (results_agg2 rfl t8 hb2) hd ?_
     refine ⟨_,_,by rw [PE.out,t9],by rw [PV.out];exact New.drewN ((N0.out.keepQ (fun q h1 _=>hk q (by omega))).mono (by have:=HB3.out.size;omega)) 1,by rw [PV.out];exact New.drewN ((N1.out.keepQ (fun q h1 _=>hk q (by omega))).mono (by have:=HB3.out.size;omega)) 1,?_⟩
     exact below_drewN (((HB3.out.trans (HB4.out.mono HB3.out.size)).setCell (p:=⟨w.heap.size+1+1,0,none⟩) (by show w.heap.size≤w.heap.size+1+1;omega) _).setCell (p:=⟨w.heap.size+1+1,1,none⟩) (by show w.heap.size≤w.heap.size+1+1;omega) _) 1
   ·have PE:Hid (Tm.prtErr ss L1 R1 k R2 = Tm.applyErr ss R1):=by show _ = _;unfold Tm.prtErr;rw [if_pos he1,if_pos he2]
    have PV:Hid (Tm.prtVal ss L1 R1 k R2 = ([],[])):=by show _ = _;unfold Tm.prtVal;rw [if_neg (by rw [PE.out];exact he3)]
    have hn:(Tm.applyErr ss R1 != 0) = true:=by simpa using he3
    have C2':=hid (fun W hW x c hI=>C2.out W hW (Tm.putVal L1 k R2) x c hI)
    rw [he2] at C2'
    clear he1 he2 he3 C2
    generalize Tm.applyErr ss R1 = q at *
    generalize Tm.applyVal ss R1 = Y at *
    generalize Tm.applyVal ss (Tm.putVal L1 k R2) = X at *
    generalize Tm.putVal L1 k R2 = P at *
    go_enter Tryz.func107,Tryz.ntmps107
    go_wp2_with fail
    rw [HW3.out]
    refine C1.out.mono ?_
    rintro e w1 ⟨v1,rfl,hN1,b1⟩
    obtain ⟨x1,e1,rfl,hI1,_⟩:=New.ints hN1
    have q1:=hbx.out w1 b1
    have k10:=q1.1.cell0
    have k11:=q1.1.cell1
    have k20:=q1.2.cell0
    have k21:=q1.2.cell1
    have f20:=q1.2.frozen 0
    have f21:=q1.2.frozen 1
    have k21':=(q1.2.set0 (.slice none 0 0)).cell1
    have f21':=(q1.2.set0 (.slice none 0 0)).frozen 1
    clear C1 hN1
    go_wp2_with fail
    refine (C2'.out w1 b1 x1 e1 hI1).mono ?_
    rintro e w2 ⟨v2,rfl,hN2,b2⟩
    obtain ⟨x2,e2,rfl,hI2,_⟩:=New.ints hN2
    have B2:=b1.trans (b2.mono b1.size)
    have q2:=hbx.out w2 B2
    clear C2' hI1 hN2 hI2 b2 k10 k11 k20 k21 f20 f21 k21' f21'
    have k21:=q2.1.cell1
    go_wp2_with fail
    refine (C3.out w2 B2).mono ?_
    rintro e w3 ⟨v3,rfl,hN3,b3⟩
    obtain ⟨x3,e3,rfl,hI3,_⟩:=New.ints hN3
    have B3:=B2.trans (b3.mono B2.size)
    have q3:=hbx.out w3 B3
    have k20:=q3.2.cell0
    have k21:=q3.2.cell1
    have f20:=q3.2.frozen 0
    have f21:=q3.2.frozen 1
    have k21':=(q3.2.set0 (.slice none 0 0)).cell1
    have f21':=(q3.2.set0 (.slice none 0 0)).frozen 1
    clear C3 hN3 hI3 b3
    go_wp2
    (try simp only [Exit.inBlock,Exit.then])
    refine bodyPost_ret (results_agg2 rfl rfl ((q3.2.set0 _).set1 _)) rfl ?_
    exact ⟨_,_,by rw [PE.out];rfl,by rw [PV.out];exact New.nil _ _,by rw [PV.out];exact New.nil _ _,((HB3.out.trans (B3.mono HB3.out.size)).setCell (p:=⟨w.heap.size+1+1,0,none⟩) (by show w.heap.size≤w.heap.size+1+1;omega) _).setCell (p:=⟨w.heap.size+1+1,1,none⟩) (by show w.heap.size≤w.heap.size+1+1;omega) _⟩
  ·have PE:Hid (Tm.prtErr ss L1 R1 k R2 = Tm.applyErr ss (Tm.putVal L1 k R2)):=by show _ = _;unfold Tm.prtErr;rw [if_pos he1,if_neg he2]
   have PV:Hid (Tm.prtVal ss L1 R1 k R2 = ([],[])):=by show _ = _;unfold Tm.prtVal;rw [if_neg (by rw [PE.out];exact he2)]
   have hn:(Tm.applyErr ss (Tm.putVal L1 k R2) != 0) = true:=by simpa using he2
   have C2':=hid (fun W hW x c hI=>C2.out W hW (Tm.putVal L1 k R2) x c hI)
   clear he1 he2 C2 C3
   generalize Tm.applyErr ss (Tm.putVal L1 k R2) = q at *
   generalize Tm.applyVal ss (Tm.putVal L1 k R2) = X at *
   generalize Tm.putVal L1 k R2 = P at *
   go_enter Tryz.func107,Tryz.ntmps107
   go_wp2_with fail
   rw [HW3.out]
   refine C1.out.mono ?_
   rintro e w1 ⟨v1,rfl,hN1,b1⟩
   obtain ⟨x1,e1,rfl,hI1,_⟩:=New.ints hN1
   have q1:=hbx.out w1 b1
   have k10:=q1.1.cell0
   have k11:=q1.1.cell1
   have k20:=q1.2.cell0
   have k21:=q1.2.cell1
   have f20:=q1.2.frozen 0
   have f21:=q1.2.frozen 1
   have k21':=(q1.2.set0 (.slice none 0 0)).cell1
   have f21':=(q1.2.set0 (.slice none 0 0)).frozen 1
   clear C1 hN1
   go_wp2_with fail
   refine (C2'.out w1 b1 x1 e1 hI1).mono ?_
   rintro e w2 ⟨v2,rfl,hN2,b2⟩
   obtain ⟨x2,e2,rfl,hI2,_⟩:=New.ints hN2
   have B2:=b1.trans (b2.mono b1.size)
   have q2:=hbx.out w2 B2
   clear C2' hI1 hN2 hI2 b2 k10 k11 k20 k21 f20 f21 k21' f21'
   have k20:=q2.2.cell0
   have k21:=q2.2.cell1
   have f20:=q2.2.frozen 0
   have f21:=q2.2.frozen 1
   have k21':=(q2.2.set0 (.slice none 0 0)).cell1
   have f21':=(q2.2.set0 (.slice none 0 0)).frozen 1
   go_wp2
   (try simp only [Exit.inBlock,Exit.then])
   refine bodyPost_ret (results_agg2 rfl rfl ((q2.2.set0 _).set1 _)) rfl ?_
   exact ⟨_,_,by rw [PE.out];rfl,by rw [PV.out];exact New.nil _ _,by rw [PV.out];exact New.nil _ _,((HB3.out.trans (B2.mono HB3.out.size)).setCell (p:=⟨w.heap.size+1+1,0,none⟩) (by show w.heap.size≤w.heap.size+1+1;omega) _).setCell (p:=⟨w.heap.size+1+1,1,none⟩) (by show w.heap.size≤w.heap.size+1+1;omega) _⟩
 ·have PE:Hid (Tm.prtErr ss L1 R1 k R2 = Tm.putErr L1 k R2):=by show _ = _;unfold Tm.prtErr;rw [if_neg he1]
  have PV:Hid (Tm.prtVal ss L1 R1 k R2 = ([],[])):=by show _ = _;unfold Tm.prtVal;rw [if_neg (by rw [PE.out];exact he1)]
  have hn:(Tm.putErr L1 k R2 != 0) = true:=by simpa using he1
  clear he1 C2 C3
  generalize Tm.putErr L1 k R2 = q at *
  generalize Tm.putVal L1 k R2 = P at *
  go_enter Tryz.func107,Tryz.ntmps107
  go_wp2_with fail
  rw [HW3.out]
  refine C1.out.mono ?_
  rintro e w1 ⟨v1,rfl,hN1,b1⟩
  obtain ⟨x1,e1,rfl,hI1,_⟩:=New.ints hN1
  have q1:=hbx.out w1 b1
  have k10:=q1.1.cell0
  have k11:=q1.1.cell1
  have k20:=q1.2.cell0
  have k21:=q1.2.cell1
  have f20:=q1.2.frozen 0
  have f21:=q1.2.frozen 1
  have k21':=(q1.2.set0 (.slice none 0 0)).cell1
  have f21':=(q1.2.set0 (.slice none 0 0)).frozen 1
  clear C1 hN1 hI1
  go_wp2
  (try simp only [Exit.inBlock,Exit.then])
  refine bodyPost_ret (results_agg2 rfl rfl ((q1.2.set0 _).set1 _)) rfl ?_
  exact ⟨_,_,by rw [PE.out];rfl,by rw [PV.out];exact New.nil _ _,by rw [PV.out];exact New.nil _ _,((HB3.out.trans (b1.mono HB3.out.size)).setCell (p:=⟨w.heap.size+1+1,0,none⟩) (by show w.heap.size≤w.heap.size+1+1;omega) _).setCell (p:=⟨w.heap.size+1+1,1,none⟩) (by show w.heap.size≤w.heap.size+1+1;omega) _⟩
abbrev PairL:=List (List Int × List Int)
namespace Wb
theorem cont_laid {pre t post:List Int} (ht:Tm.err t = 0):cont (pre++(t++post)) pre.length = t:=by
 have h:=Tm.part_mid (pre:=pre) (t:=t) (post:=post) (k:=0) (by omega) (by rw [Tm.endAt_zero,Tm.err_run ht];exact Nat.le_refl _)
 rw [Nat.add_zero] at h
 unfold cont
 rw [h]
 unfold Tm.part
 rw [Tm.endAt_zero,Tm.err_run ht]
 simp
def Same (ps:PairL) (k:Nat) (θ:Sb):Prop:=∀ j,j < k→App θ (ps[j]?.getD ([],[])).1 = App θ (ps[j]?.getD ([],[])).2
structure MInv (ps:PairL) (k:Nat) (zs:List Int) (h:Nat→Nat):Prop where
 good:Good zs
 st:∃ T,St zs T h
 closed:Closed zs h []
 len:zs.length≤8+60 * k
 sound:∀ θ,TermSb θ→Same ps k θ→Resp zs h θ
 tied:∀ j,j < k→∃ p q,p < zs.length∧q < zs.length∧cont zs p = (ps[j]?.getD ([],[])).1∧cont zs q = (ps[j]?.getD ([],[])).2∧hd zs h p = hd zs h q
theorem MInv.start (ps:PairL):MInv ps 0 (eight 8) (fun p=>p):=by
 refine ⟨good8,⟨_,St.start _⟩,fun p q hp _ sp _ _=>?_,by rw [eight_length 8 (by omega)];omega,fun θ _ _ p _ _=>rfl,fun j hj=>by omega⟩
 rw [eight_length 8 (by omega)] at hp
 have:=good8.vars p hp
 omega
theorem Closed.more {zs:List Int} {h:Nat→Nat} {P:List (Nat × Nat)} (C:Closed zs h []):Closed zs h P:=fun p q hp hq sp sq e=>by
 obtain ⟨e1,e2⟩:=C p q hp hq sp sq e
 exact ⟨e1,fun i hi=>(e2 i hi).move (fun _ _ _ _ h=>h) (fun p q hm=>by simp at hm)⟩
theorem Same.succ {ps:PairL} {k:Nat} {θ:Sb} (H:Same ps (k+1) θ):Same ps k θ∧App θ (ps[k]?.getD ([],[])).1 = App θ (ps[k]?.getD ([],[])).2:=⟨fun j hj=>H j (by omega),H k (by omega)⟩
theorem MInv.good2 {ps:PairL} {k:Nat} {zs:List Int} {h:Nat→Nat} (M:MInv ps k zs h) {L R:List Int} (hL:Tm.err L = 0) (hR:Tm.err R = 0) (lL:L.length≤30) (lR:R.length≤30) (hk:k < 40):Good (zs++L++R):=by
 have:=M.len
 exact (M.good.ext hL (by omega)).ext hR (by rw [List.length_append];omega)
theorem MInv.at1 {zs L R:List Int} (hL:Tm.err L = 0):cont (zs++L++R) zs.length = L:=by rw [List.append_assoc];exact cont_laid hL
theorem MInv.at2 {zs L R:List Int} (hR:Tm.err R = 0):cont (zs++L++R) (zs++L).length = R:=by
 have:=cont_laid (pre:=zs++L) (post:=[]) hR
 rwa [List.append_nil] at this
theorem MInv.step {ps:PairL} {k:Nat} {zs:List Int} {h:Nat→Nat} (M:MInv ps k zs h) {L R:List Int} (hL:Tm.err L = 0) (hR:Tm.err R = 0) (lL:L.length≤30) (lR:R.length≤30) (hk:k < 40) (eL:(ps[k]?.getD ([],[])).1 = L) (eR:(ps[k]?.getD ([],[])).2 = R) (h0:0 < L.length) (h1:0 < R.length) {h':Nat→Nat} (hL':TieL (zs++L++R) h h' [(zs.length,(zs++L).length)]) (S':∃ T,St (zs++L++R) T h'):MInv ps (k+1) (zs++L++R) h':=by
 obtain ⟨T,S⟩:=M.st
 have G1:=M.good.ext hL (by have:=M.len;omega)
 have G2:=M.good2 hL hR lL lR hk
 have S1:St (zs++L) T h:=S.ext
 have hlen:(zs++L++R).length = zs.length+L.length+R.length:=by rw [List.length_append,List.length_append]
 have c1:=MInv.at1 (zs:=zs) (R:=R) hL
 have c2:=MInv.at2 (zs:=zs) (L:=L) hR
 refine ⟨G2,S',hL'.close [] ((Closed.ext G1 S1 G2 (Closed.ext M.good S G1 M.closed)).more),by have:=M.len;omega,fun θ hθ H=>?_,fun j hj=>?_⟩
 ·obtain ⟨H1,H2⟩:=H.succ
  refine hL'.sound θ hθ ((M.sound θ hθ H1).ext M.good S |>.ext G1 S1) fun p q hm=>?_
  simp only [List.mem_cons,List.not_mem_nil,or_false,Prod.mk.injEq] at hm
  obtain ⟨rfl,rfl⟩:=hm
  rw [c1,c2,← eL,← eR]
  exact H2
 ·by_cases e:j = k
  ·subst e
   exact ⟨zs.length,(zs++L).length,by omega,by rw [hlen,List.length_append];omega,by rw [c1,eL],by rw [c2,eR],hL'.tied _ _ (by simp)⟩
  ·obtain ⟨p,q,hp,hq,e1,e2,e3⟩:=M.tied j (by omega)
   have hp1:p < (zs++L).length:=by rw [List.length_append];omega
   have hq1:q < (zs++L).length:=by rw [List.length_append];omega
   refine ⟨p,q,by omega,by omega,by rw [cont_ext G1 hp1,cont_ext M.good hp,e1],by rw [cont_ext G1 hq1,cont_ext M.good hq,e2],hL'.coarse p q (by omega) (by omega) ?_⟩
   rw [hd_ext hp1,hd_ext hp,hd_ext hq1,hd_ext hq,e3]
theorem MInv.no {ps:PairL} {k:Nat} {zs:List Int} {h:Nat→Nat} (M:MInv ps k zs h) {L R:List Int} (hL:Tm.err L = 0) (hR:Tm.err R = 0) (lL:L.length≤30) (hk:k < 40) (eL:(ps[k]?.getD ([],[])).1 = L) (eR:(ps[k]?.getD ([],[])).2 = R) (hN:No (zs++L++R) h [(zs.length,(zs++L).length)]):∀ θ,TermSb θ→¬ Same ps (k+1) θ:=fun θ hθ H=>by
 obtain ⟨T,S⟩:=M.st
 have G1:=M.good.ext hL (by have:=M.len;omega)
 have S1:St (zs++L) T h:=S.ext
 obtain ⟨H1,H2⟩:=H.succ
 refine hN θ hθ ((M.sound θ hθ H1).ext M.good S |>.ext G1 S1) fun p q hm=>?_
 simp only [List.mem_cons,List.not_mem_nil,or_false,Prod.mk.injEq] at hm
 obtain ⟨rfl,rfl⟩:=hm
 rw [MInv.at1 (zs:=zs) (R:=R) hL,MInv.at2 (zs:=zs) (L:=L) hR,← eL,← eR]
 exact H2
structure Mgu (ps:PairL) (σ:Sb):Prop where
 term:TermSb σ
 vars:∀ v,-8≤v→v < 0→∀ s∈σ v,-8≤s∧s < 6
 same:Same ps ps.length σ
 most:∀ θ,TermSb θ→Same ps ps.length θ→∀ v,-8≤v→v < 0→θ v = App θ (σ v)
 least:∀ v u,-8≤v→v < 0→σ v = [u]→u < 0→v≤u
theorem MInv.mgu {ps:PairL} {zs:List Int} {h:Nat→Nat} (M:MInv ps ps.length zs h) (F:∀ i,i < 8→Fin zs h i):∃ σ,Mgu ps σ∧∀ i,i < 8→Exp zs h i (σ (-1 - (i:Int))):=by
 obtain ⟨T,S⟩:=M.st
 obtain ⟨σ,Sg⟩:=Sigma.of M.good S M.closed F
 have hv:∀ v,-8≤v→v < 0→∀ s∈σ v,-8≤s∧s < 6:=fun v h1 h2=>by
  have hE:=Sg.exp (-1 - v).toNat (by omega)
  rw [show -1 - (((-1 - v).toNat:Nat):Int) = v from by omega] at hE
  exact hE.vars M.good S (by have:=M.good.eight;omega)
 refine ⟨σ,⟨Sg.term,hv,fun j hj=>?_,fun θ hθ H=>Sg.most θ (M.sound θ hθ H),Sg.least⟩,Sg.exp⟩
 obtain ⟨p,q,hp,hq,e1,e2,e3⟩:=M.tied j hj
 have a:=Exp.of_sigma M.good S M.closed Sg.exp _ p (Nat.le_refl _) hp
 have b:=Exp.of_sigma M.good S M.closed Sg.exp _ q (Nat.le_refl _) hq
 have:=(a.move e3).one _ b
 rw [e1,e2] at this
 exact this
theorem Mgu.one {ps:PairL} {σ τ:Sb} (A:Mgu ps σ) (B:Mgu ps τ):∀ v,-8≤v→v < 0→σ v = τ v :=
 canon_one A.term B.term (fun v h1 h2 s hs _=>(A.vars v h1 h2 s hs).1) (fun v h1 h2 s hs _=>(B.vars v h1 h2 s hs).1) (B.most σ A.term A.same) (A.most τ B.term B.same) A.least B.least
end Wb
def Tm.pairErr (L R:List Int):Int:=if Tm.err L = 0 then Tm.err R else Tm.err L
def Tm.firstPair:PairL→Int
 | []=>0
 | r :: l=>if Tm.pairErr r.1 r.2 = 0 then Tm.firstPair l else Tm.pairErr r.1 r.2
theorem Tm.firstPair_step {rs:PairL} {k:Nat} (hk:k < rs.length) (he:Tm.pairErr (rs[k]?.getD ([],[])).1 (rs[k]?.getD ([],[])).2 = 0):Tm.firstPair (rs.drop k) = Tm.firstPair (rs.drop (k+1)):=by
 rw [List.drop_eq_getElem_cons hk,Tm.firstPair]
 simp only [hk,List.getElem?_eq_getElem,Option.getD_some] at he
 rw [if_pos he]
theorem Tm.firstPair_at {rs:PairL} {k:Nat} (hk:k < rs.length) (he:Tm.pairErr (rs[k]?.getD ([],[])).1 (rs[k]?.getD ([],[])).2≠0):Tm.firstPair (rs.drop k) = Tm.pairErr (rs[k]?.getD ([],[])).1 (rs[k]?.getD ([],[])).2:=by
 rw [List.drop_eq_getElem_cons hk,Tm.firstPair]
 simp only [hk,List.getElem?_eq_getElem,Option.getD_some] at he ⊢
 rw [if_neg he]
theorem Tm.firstPair_right {rs:PairL} (h:Tm.firstPair rs = 0):∀ k,k < rs.length→Tm.err (rs[k]?.getD ([],[])).1 = 0∧Tm.err (rs[k]?.getD ([],[])).2 = 0:=by
 induction rs with
 | nil=>intro k hk;simp at hk
 | cons r l ih =>
  rw [Tm.firstPair] at h
  by_cases he:Tm.pairErr r.1 r.2 = 0
  ·rw [if_pos he] at h
   intro k hk
   cases k with
   | zero =>
    simp only [List.getElem?_cons_zero,Option.getD_some]
    unfold Tm.pairErr at he
    by_cases hl:Tm.err r.1 = 0
    ·rw [if_pos hl] at he;exact ⟨hl,he⟩
    ·rw [if_neg hl] at he;exact absurd he hl
   | succ k =>
    simp only [List.getElem?_cons_succ]
    exact ih h k (by simpa using hk)
  ·rw [if_neg he] at h
   exact absurd h he
def MeetOk (ps:PairL) (W:World) (e:Ending):Prop :=
 ((∀ θ,Wb.TermSb θ→¬ Wb.Same ps ps.length θ)∧e = .returned (.tuple #[.slice none 0 0,.bool false,.int .i64 0])) ∨
 ∃ σ,Wb.Mgu ps σ∧(((∀ i:Nat,i < 8→(σ (-1 - (i:Int))).length≤30)∧∃ a,e = .returned (.tuple #[.slice a 8 8,.bool true,.int .i64 0])∧Subs W.heap.size W a ((List.range 8).map fun i:Nat=>σ (-1 - (i:Int)))) ∨
  ((∃ i:Nat,i < 8∧30 < (σ (-1 - (i:Int))).length)∧e = .returned (.tuple #[.slice none 0 0,.bool false,.int .i64 2])))
def MeetAns (ps:PairL) (W:World) (e:Ending):Prop :=
 (Tm.firstPair ps≠0∧e = .returned (.tuple #[.slice none 0 0,.bool false,.int .i64 (Tm.firstPair ps)]))∨(Tm.firstPair ps = 0∧MeetOk ps W e)
def MeetR (F:Bool→Act) (n:Nat) (wr:World) (B1 B0:Nat) (zs:List Int) (h:Nat→Nat) (p q:Nat) (e:Exit) (a':Act) (w4:World):Prop :=
 e = .normal∧∃ (qb:Bool) (v3:Value),a' = F qb∧Below n wr w4∧((qb = true∧∃ h',Wb.TieL zs h h' [(p,q)]∧FW w4 B1 B0 v3 zs h')∨(qb = false∧Wb.No zs h [(p,q)]))
theorem MeetR.panic {F:Bool→Act} {n:Nat} {wr:World} {B1 B0:Nat} {zs:List Int} {h:Nat→Nat} {p q:Nat} {c:_} {a':Act} {w4:World} {G:Prop} (H:MeetR F n wr B1 B0 zs h p q (.panic c) a' w4):G:=by
 cases H.1
set_option maxRecDepth 100000 in
set_option maxHeartbeats 30000000 in
theorem meet_any (ps:PairL) (h40:ps.length≤40) (a:Option Addr) (cap:Nat) (w:World) (hP:RulesAt w.heap.size w a ps) :
 Calls Tryz.prog 127 #[.slice a ps.length cap] w fun e w'=>Below w.heap.size w w'∧MeetAns ps w' e:=by
 have h40':(ps.length:Int)≤40:=by omega
 have HP:=hid hP
 clear hP
 go_enter Tryz.func127,Tryz.ntmps127
 go_wp2_with fail
 go_loopw [14] (fun v wr=>∃ k:Nat,k≤ps.length∧v = .int .i64 (k:Int)∧Hid (Tm.firstPair ps = Tm.firstPair (ps.drop k))∧Below w.heap.size w wr) (fun v _=>ps.length - (intOf v).toNat)
 case atStart=>exact ⟨0,Nat.zero_le _,rfl,hid rfl,Below.refl _ _⟩
 case round =>
  obtain ⟨k,hk,rfl,hst,hB⟩:=hrel
  by_cases hlt:k < ps.length
  ·have hlt':(k:Int) < (ps.length:Int):=by omega
   obtain ⟨b,off,rfl,hb,aL,cL,aR,cR,h1,h2,h3,h4,_⟩:=(HP.out.below hB) k hlt
   have hs1:=hid (Tm.firstPair_step hlt)
   have hs2:=hid (Tm.firstPair_at hlt)
   obtain ⟨L,hL⟩:∃ L,(ps[k]?.getD ([],[])).1 = L:=⟨_,rfl⟩
   obtain ⟨R,hR⟩:∃ R,(ps[k]?.getD ([],[])).2 = R:=⟨_,rfl⟩
   rw [hL] at h1 h3 hs1 hs2
   rw [hR] at h2 h4 hs1 hs2
   have hBa:Below wr.heap.size wr (wr.alloc (.cells #[.slice aL L.length cL,.slice aR R.length cR] 40)):=(Below.refl _ wr).alloc (Nat.le_refl _) _
   have hC1:=hid (check_any L aL cL (wr.alloc (.cells #[.slice aL L.length cL,.slice aR R.length cR] 40)) (((h3.mono hB.size).below hBa).mono hBa.size))
   have hC2:=hid (fun w2 (hB2:Below (wr.alloc (.cells #[.slice aL L.length cL,.slice aR R.length cR] 40)).heap.size (wr.alloc (.cells #[.slice aL L.length cL,.slice aR R.length cR] 40)) w2)=>check_any R aR cR w2 (((((h4.mono hB.size).below hBa).mono hBa.size).below hB2).mono hB2.size))
   have hBw:=hB.trans (hBa.mono hB.size)
   have hq:Hid (Tm.pairErr L R = if Tm.err L = 0 then Tm.err R else Tm.err L):=rfl
   have hsa:(wr.alloc (.cells #[.slice aL L.length cL,.slice aR R.length cR] 40)).heap.size = wr.heap.size+1:=by simp
   have hcp:(wr.alloc (.cells #[.slice aL L.length cL,.slice aR R.length cR] 40)).cell? ⟨wr.heap.size,1,none⟩ = some (.slice aR R.length cR):=(cell_at (World.alloc_heap_new wr _) 1).trans rfl
   clear hL hR h3 h4
   by_cases heL:Tm.err L = 0
   ·rw [heL] at hC1
    by_cases heR:Tm.err R = 0
    ·rw [heR] at hC2
     have Hs:=hid (hs1.out (by rw [hq.out,if_pos heL,heR]))
     clear heL heR hs1 hs2 hq
     go_wp2_with (first
      | (go_at_call_of 49 (Value.slice aL L.length cL);refine hC1.out.mono ?_;clear hC1;rintro e w2 ⟨rfl,b2⟩;have hc2:=(b2.cell (p:=⟨wr.heap.size,1,none⟩) (by rw [hsa];exact Nat.lt_succ_self _)).trans hcp)
      | (go_at_call_of 49 (Value.slice aR R.length cR);refine (hC2.out w2 b2).mono ?_;clear hC2;rintro e w5 ⟨rfl,b5⟩))
     go_roundw
     case rel=>exact ⟨k+1,by omega,by go_num,hid (hst.out.trans Hs.out),(hBw.trans (b2.mono hBw.size)).trans (b5.mono (hBw.trans (b2.mono hBw.size)).size)⟩
     case measure=>simp [intOf];omega
    ·have hn:(Tm.err R != 0) = true:=by simpa using heR
     have Hs:=hid (hs2.out (by rw [hq.out,if_pos heL];exact heR))
     have Hv:=hid (show Tm.pairErr L R = Tm.err R by rw [hq.out,if_pos heL])
     have hne:=hid heR
     clear heL heR hs1 hs2 hq
     generalize Tm.err R = q at *
     go_wp2_with (first
      | (go_at_call_of 49 (Value.slice aL L.length cL);refine hC1.out.mono ?_;clear hC1;rintro e w2 ⟨rfl,b2⟩;have hc2:=(b2.cell (p:=⟨wr.heap.size,1,none⟩) (by rw [hsa];exact Nat.lt_succ_self _)).trans hcp)
      | (go_at_call_of 49 (Value.slice aR R.length cR);refine (hC2.out w2 b2).mono ?_;clear hC2;rintro e w5 ⟨rfl,b5⟩))
     go_ret3
     have he:=hst.out.trans (Hs.out.trans Hv.out)
     exact ⟨(hBw.trans (b2.mono hBw.size)).trans (b5.mono (hBw.trans (b2.mono hBw.size)).size),.inl ⟨by rw [he];exact hne.out,by rw [he];rfl⟩⟩
   ·have hn:(Tm.err L != 0) = true:=by simpa using heL
    have Hs:=hid (hs2.out (by rw [hq.out,if_neg heL];exact heL))
    have Hv:=hid (show Tm.pairErr L R = Tm.err L by rw [hq.out,if_neg heL])
    have hne:=hid heL
    clear heL hs1 hs2 hq
    generalize Tm.err L = q at *
    go_wp2_with (first
     | (go_at_call_of 49 (Value.slice aL L.length cL);refine hC1.out.mono ?_;clear hC1;rintro e w2 ⟨rfl,b2⟩))
    go_ret3
    have he:=hst.out.trans (Hs.out.trans Hv.out)
    exact ⟨hBw.trans (b2.mono hBw.size),.inl ⟨by rw [he];exact hne.out,by rw [he];rfl⟩⟩
  ·obtain rfl:k = ps.length:=by omega
   have hok:Hid (Tm.firstPair ps = 0):=by
    show _ = _
    rw [hst.out,List.drop_length]
    rfl
   go_wp2_with (first
    | (go_at_call 132;refine (newWeb_any wr).mono ?_;rintro e w5 ⟨v5,rfl,hF5,hB5⟩))
   have hsw:=hB.size
   have hB5w:=hB.trans (hB5.mono hB.size)
   have HF5:=hid hF5
   obtain ⟨W0,hW0⟩:∃ n,n = wr.heap.size:=⟨_,rfl⟩
   rw [← hW0] at HF5 hsw
   clear hF5 hst
   go_wp2_with fail
   rw [← hW0]
   clear hW0 hB5 hB
   go_loopw [34] (fun x wq=>∃ (k:Nat) (zs:List Int) (h:Nat→Nat) (v:Value),k≤ps.length∧x = .int .i64 (k:Int)∧Hid (Wb.MInv ps k zs h)∧Hid (FW wq (W0+1) W0 v zs h)∧Hid (Below w.heap.size w wq)) (fun x _=>ps.length - (intOf x).toNat)
   case atStart=>exact ⟨0,_,_,v5,by omega,rfl,Wb.MInv.start ps,HF5,hB5w⟩
   case round =>
    obtain ⟨k,zs,h,v,hk2,rfl,hM,hF,hBq⟩:=hrel
    by_cases hlt:k < ps.length
    ·have hlt':(k:Int) < (ps.length:Int):=by omega
     obtain ⟨b,off,rfl,hb,aL,cL,aR,cR,h1,h2,h3,h4,_⟩:=(HP.out.below hBq.out) k hlt
     obtain ⟨eL0,eR0⟩:=Tm.firstPair_right hok.out k hlt
     obtain ⟨L,hL⟩:∃ L,(ps[k]?.getD ([],[])).1 = L:=⟨_,rfl⟩
     obtain ⟨R,hR⟩:∃ R,(ps[k]?.getD ([],[])).2 = R:=⟨_,rfl⟩
     rw [hL] at h1 h3 eL0
     rw [hR] at h2 h4 eR0
     have lL:=Tm.err_len eL0
     have lR:=Tm.err_len eR0
     have pL:=Tm.err_pos eL0
     have pR:=Tm.err_pos eR0
     have hzl:=hM.out.len
     have G2:=hid (hM.out.good2 eL0 eR0 lL lR (by omega))
     have hsz:=hBq.out.size
     have hlw:=hF.out.lt
     obtain ⟨p,hp⟩:∃ p,p = zs.length:=⟨_,rfl⟩
     obtain ⟨q,hq⟩:∃ q,q = (zs++L).length:=⟨_,rfl⟩
     have hpq:q = p+L.length:=by rw [hp,hq,List.length_append]
     have hBa:Below wr.heap.size wr ((wr.alloc (.cells #[.slice aL L.length cL,.slice aR R.length cR] 40)).drewN 1):=below_drewN ((Below.refl _ wr).alloc (Nat.le_refl _) _) 1
     have hsa:((wr.alloc (.cells #[.slice aL L.length cL,.slice aR R.length cR] 40)).drewN 1).heap.size = wr.heap.size+1:=by show (wr.alloc _).heap.size = _;simp
     have hblk:((wr.alloc (.cells #[.slice aL L.length cL,.slice aR R.length cR] 40)).drewN 1).heap[wr.heap.size]? = some (.cells #[.slice aL L.length cL,.slice aR R.length cR] 40):=World.alloc_heap_new wr _
     have hnone:∀ {x:Option Addr} {t:List Int} {W:World} {n c:Nat},Ints n W x t→0 < t.length→x = none→t.length = 0∧c = 0:=fun {x t W n c} hI h0 e=>by
      obtain ⟨b',off',e',_⟩:=hI.at h0
      rw [e] at e'
      cases e'
     have hC1:=hid (fw_lay zs L h (W0+1) W0 v aL cL _ (hF.out.keep hBa) (((h3.mono hsz).below hBa).mono hBa.size) (hnone h3 pL) (by omega))
     have hC2:=hid (fun w2 v2 (hF2:FW w2 (W0+1) W0 v2 (zs++L) h) (hB2:Below w.heap.size wr w2)=>fw_lay (zs++L) R h (W0+1) W0 v2 aR cR w2 hF2 ((h4.below hB2).mono (by have:=hB2.size;omega)) (hnone h4 pR) (by rw [List.length_append];omega))
     rw [← hp] at hC1
     rw [← hq] at hC2
     have hlen3:(zs++L++R).length = p+L.length+R.length:=by rw [hp,List.length_append,List.length_append]
     have hT:=hid (fun w3 v3 (hF3:FW w3 (W0+1) W0 v3 (zs++L++R) h)=>fw_tie (zs++L++R) G2.out h (W0+1) W0 v3 p q w3 (by omega) (by omega) hF3)
     have hstep:=hid (fun h' hTL S'=>hM.out.step eL0 eR0 lL lR (by omega) hL hR pL pR (h':=h') hTL S')
     have hno:=hid (fun hN=>hM.out.no eL0 eR0 lL (by omega) hL hR hN)
     rw [← hp,← hq] at hstep hno
     have hwk:Hid (∀ (w1 w2:World) (u:Value) (zz:List Int) (hh:Nat→Nat),FW w1 (W0+1) W0 u zz hh→WKeep w1 w2 (W0+1) W0 u→Below w.heap.size w1 w2):=fun w1 w2 u zz hh hf hk=>⟨hk.1,hk.2.1,hk.2.2.1,hk.2.2.2.1,fun x hx=>hk.2.2.2.2 x (by have:=hf.lt;omega) (by omega) (by omega) (fun e=>by have:=(World.ownsRow.lt hf.own.2 x e.symm).1;omega)⟩
     have hFa:=hid (hF.out.keep hBa)
     have hvo:=hid (fun x (e:v.ownBlock = some x)=>(World.ownsRow.lt hF.out.own.2 x e).2)
     clear hL hR h3 h4 hp hq hnone hM hF eL0 eR0 hpq hlen3
     have hcc:Hid (∀ W:World,W.heap[wr.heap.size]? = some (.cells #[.slice aL L.length cL,.slice aR R.length cR] 40)→W.cell? ⟨wr.heap.size,0,none⟩ = some (.slice aL L.length cL)∧W.cell? ⟨wr.heap.size,1,none⟩ = some (.slice aR R.length cR)):=fun W hW=>⟨(cell_at hW 0).trans rfl,(cell_at hW 1).trans rfl⟩
     have hb2:Hid (∀ (w2:World),WKeep ((wr.alloc (.cells #[.slice aL L.length cL,.slice aR R.length cR] 40)).drewN 1) w2 (W0+1) W0 v→w2.heap[wr.heap.size]? = some (.cells #[.slice aL L.length cL,.slice aR R.length cR] 40)):=fun w2 hk=>(hk.2.2.2.2 wr.heap.size (by rw [hsa];omega) (by omega) (by omega) (fun e=>by have:=hvo.out _ e.symm;omega)).trans hblk
     have hS0:=hcc.out _ hblk
     have hS0':(wr.alloc (.cells #[.slice aL L.length cL,.slice aR R.length cR] 40)).cell? ⟨wr.heap.size,0,none⟩ = some (.slice aL L.length cL)∧(wr.alloc (.cells #[.slice aL L.length cL,.slice aR R.length cR] 40)).cell? ⟨wr.heap.size,1,none⟩ = some (.slice aR R.length cR):=hS0
     go_wp2_with fail
     have mixed:Tryz.prog.follows .mixedOrders = true:=by kernel_rfl
     refine wp_mono (Q:=MeetR (fun qb=>{ tmps:=#[.slice (some ⟨b,off,none⟩) ps.length cap,undef,u2,u3,u4,undef,u6,u7,u8,.pointer (some ⟨W0+1,0,none⟩),undef,.pointer (some ⟨wr.heap.size,0,none⟩),.slice (some ⟨b,off,none⟩) ps.length cap,.int .i64 (ps.length:Int),.int .i64 (ps.length:Int),.bool false,u16,u17,u18,u19,u20,u21,u22,u23,u24,u25,u26,u27,u28,u29,u30,.pointer (some ⟨W0+1,0,none⟩),.slice (some ⟨b,off,none⟩) ps.length cap,.int .i64 (ps.length:Int),.int .i64 (k:Int),.bool true,.pointer (some ⟨b,off+k * 2,none⟩),.agg #[.slice aL L.length cL,.slice aR R.length cR],.pointer (some ⟨W0+1,0,none⟩),.pointer (some ⟨W0+1,0,none⟩),.pointer (some ⟨wr.heap.size,0,none⟩),.slice aL L.length cL,.int .i64 (p:Int),.pointer (some ⟨W0+1,0,none⟩),.pointer (some ⟨wr.heap.size,1,none⟩),.slice aR R.length cR,.int .i64 (q:Int),.bool qb,.bool !qb,u49,undef,undef,undef,undef,undef,undef,undef],defers:=[] }) w.heap.size wr (W0+1) W0 (zs++L++R) h p q) ?reg ?aft
     case reg =>
      refine wp_region_any mixed ?_
      change wpAny _ _ _ _ _ _ _ (World.drew _)
      show wpAny _ _ _ _ 11 (Array.replicate 11 false) _ _
      refine wpAny_take (i:=0) (v:=.pointer (some ⟨W0+1,0,none⟩)) rfl (by kernel_rfl) (by kernel_rfl) (by kernel_rfl) (fun _ _ _ h=>h.panic) (Or.inl ⟨by rfl,fun w=>by go_simp⟩) ?_
      refine wpAny_take (i:=1) (v:=.pointer (some ⟨W0+1,0,none⟩)) rfl (by kernel_rfl) (by kernel_rfl) (by kernel_rfl) (fun _ _ _ h=>h.panic) (Or.inl ⟨by rfl,fun w=>by go_simp⟩) ?_
      refine wpAny_take (i:=2) (v:=.pointer (some ⟨wr.heap.size,0,none⟩)) rfl (by kernel_rfl) (by kernel_rfl) (by kernel_rfl) (fun _ _ _ h=>h.panic) (Or.inl ⟨by rfl,fun w=>by go_simp⟩) ?_
      refine wpAny_take (i:=5) (v:=.pointer (some ⟨W0+1,0,none⟩)) rfl (by kernel_rfl) (by kernel_rfl) (by kernel_rfl) (fun _ _ _ h=>h.panic) (Or.inl ⟨by rfl,fun w=>by go_simp⟩) ?_
      refine wpAny_take (i:=6) (v:=.pointer (some ⟨wr.heap.size,1,none⟩)) rfl (by kernel_rfl) (by kernel_rfl) (by kernel_rfl) (fun _ _ _ h=>h.panic) (Or.inl ⟨by rfl,fun w=>by go_simp⟩) ?_
      refine wpAny_ready (rs:=[3,7]) (by kernel_rfl) (by simp) ?_
      refine AllReady.cons rfl (fun K hK=>?_) (AllReady.cons rfl (fun K hK=>?_) AllReady.nil)
      ·go_simp
       refine hK _ _ ?_
       clear hK K
       refine wpAny_ready (rs:=[4,7]) (by kernel_rfl) (by simp) ?_
       refine AllReady.cons rfl (fun K hK=>?_) (AllReady.cons rfl (fun K hK=>?_) AllReady.nil)
       ·go_simp
        refine hC1.out.mono ?_
        rintro e w2 ⟨rfl,v2,hF2,hK2,ho2⟩
        have hb22:=hb2.out w2 hK2
        have hS2:w2.cell? ⟨wr.heap.size,0,none⟩ = some (.slice aL L.length cL)∧w2.cell? ⟨wr.heap.size,1,none⟩ = some (.slice aR R.length cR):=hcc.out w2 hb22
        have c21:=hS2.2
        have hB2:Below w.heap.size wr w2:=(hBa.mono hsz).trans (hwk.out _ w2 v _ _ hFa.out hK2)
        refine hK _ _ ?_
        clear hK K
        refine wpAny_ready (rs:=[7]) (by kernel_rfl) (by simp) ?_
        refine AllReady.cons rfl (fun K hK=>?_) AllReady.nil
        go_simp
        refine hK _ _ ?_
        clear hK K
        refine wpAny_ready (rs:=[8]) (by kernel_rfl) (by simp) ?_
        refine AllReady.cons rfl (fun K hK=>?_) AllReady.nil
        go_simp
        refine (hC2.out w2 v2 hF2 hB2).mono ?_
        rintro e w3 ⟨rfl,v3,hF3,hK3,ho3⟩
        have hb33:w3.heap[wr.heap.size]? = some (.cells #[.slice aL L.length cL,.slice aR R.length cR] 40):=(hK3.2.2.2.2 wr.heap.size (Array.getElem?_eq_some_iff.1 hb22).1 (by omega) (by omega) (fun e=>by rcases ho2 _ e.symm with h | h;exact absurd (hvo.out _ h) (Nat.lt_irrefl _);rw [hsa] at h;omega)).trans hb22
        have hS3:w3.cell? ⟨wr.heap.size,0,none⟩ = some (.slice aL L.length cL)∧w3.cell? ⟨wr.heap.size,1,none⟩ = some (.slice aR R.length cR):=hcc.out w3 hb33
        have hB3:Below w.heap.size wr w3:=hB2.trans (hwk.out _ w3 v2 _ _ hF2 hK3)
        refine hK _ _ ?_
        clear hK K
        refine wpAny_ready (rs:=[9]) (by kernel_rfl) (by simp) ?_
        refine AllReady.cons rfl (fun K hK=>?_) AllReady.nil
        go_simp
        refine (hT.out w3 v3 hF3).mono ?_
        rintro e w4 ⟨qb,rfl,hK4,hq4⟩
        have hb44:w4.heap[wr.heap.size]? = some (.cells #[.slice aL L.length cL,.slice aR R.length cR] 40):=(hK4.block _ (Array.getElem?_eq_some_iff.1 hb33).1 (by omega)).trans hb33
        have hS4:w4.cell? ⟨wr.heap.size,0,none⟩ = some (.slice aL L.length cL)∧w4.cell? ⟨wr.heap.size,1,none⟩ = some (.slice aR R.length cR):=hcc.out w4 hb44
        have hB4:Below w.heap.size wr w4:=hB3.trans ⟨hK4.os,hK4.tape,hK4.output,hK4.size,fun x hx=>hK4.block x (by have:=hB3.size;omega) (by omega)⟩
        refine hK _ _ ?_
        clear hK K
        refine wpAny_ready (rs:=[10]) (by kernel_rfl) (by simp) ?_
        refine AllReady.cons rfl (fun K hK=>?_) AllReady.nil
        go_simp
        refine hK _ _ ?_
        clear hK K
        refine wpAny_done (by kernel_rfl) ?_ _
        exact ⟨rfl,qb,v3,rfl,hB4,hq4⟩
       ·go_simp
        refine hK _ _ ?_
        clear hK K
        refine wpAny_ready (rs:=[4]) (by kernel_rfl) (by simp) ?_
        refine AllReady.cons rfl (fun K hK=>?_) AllReady.nil
        go_simp
        refine hC1.out.mono ?_
        rintro e w2 ⟨rfl,v2,hF2,hK2,ho2⟩
        have hb22:=hb2.out w2 hK2
        have hS2:w2.cell? ⟨wr.heap.size,0,none⟩ = some (.slice aL L.length cL)∧w2.cell? ⟨wr.heap.size,1,none⟩ = some (.slice aR R.length cR):=hcc.out w2 hb22
        have c21:=hS2.2
        have hB2:Below w.heap.size wr w2:=(hBa.mono hsz).trans (hwk.out _ w2 v _ _ hFa.out hK2)
        refine hK _ _ ?_
        clear hK K
        refine wpAny_ready (rs:=[8]) (by kernel_rfl) (by simp) ?_
        refine AllReady.cons rfl (fun K hK=>?_) AllReady.nil
        go_simp
        refine (hC2.out w2 v2 hF2 hB2).mono ?_
        rintro e w3 ⟨rfl,v3,hF3,hK3,ho3⟩
        have hb33:w3.heap[wr.heap.size]? = some (.cells #[.slice aL L.length cL,.slice aR R.length cR] 40):=(hK3.2.2.2.2 wr.heap.size (Array.getElem?_eq_some_iff.1 hb22).1 (by omega) (by omega) (fun e=>by rcases ho2 _ e.symm with h | h;exact absurd (hvo.out _ h) (Nat.lt_irrefl _);rw [hsa] at h;omega)).trans hb22
        have hS3:w3.cell? ⟨wr.heap.size,0,none⟩ = some (.slice aL L.length cL)∧w3.cell? ⟨wr.heap.size,1,none⟩ = some (.slice aR R.length cR):=hcc.out w3 hb33
        have hB3:Below w.heap.size wr w3:=hB2.trans (hwk.out _ w3 v2 _ _ hF2 hK3)
        refine hK _ _ ?_
        clear hK K
        refine wpAny_ready (rs:=[9]) (by kernel_rfl) (by simp) ?_
        refine AllReady.cons rfl (fun K hK=>?_) AllReady.nil
        go_simp
        refine (hT.out w3 v3 hF3).mono ?_
        rintro e w4 ⟨qb,rfl,hK4,hq4⟩
        have hb44:w4.heap[wr.heap.size]? = some (.cells #[.slice aL L.length cL,.slice aR R.length cR] 40):=(hK4.block _ (Array.getElem?_eq_some_iff.1 hb33).1 (by omega)).trans hb33
        have hS4:w4.cell? ⟨wr.heap.size,0,none⟩ = some (.slice aL L.length cL)∧w4.cell? ⟨wr.heap.size,1,none⟩ = some (.slice aR R.length cR):=hcc.out w4 hb44
        have hB4:Below w.heap.size wr w4:=hB3.trans ⟨hK4.os,hK4.tape,hK4.output,hK4.size,fun x hx=>hK4.block x (by have:=hB3.size;omega) (by omega)⟩
        refine hK _ _ ?_
        clear hK K
        refine wpAny_ready (rs:=[10]) (by kernel_rfl) (by simp) ?_
        refine AllReady.cons rfl (fun K hK=>?_) AllReady.nil
        go_simp
        refine hK _ _ ?_
        clear hK K
        refine wpAny_done (by kernel_rfl) ?_ _
        exact ⟨rfl,qb,v3,rfl,hB4,hq4⟩
      ·go_simp
       refine hK _ _ ?_
       clear hK K
       refine wpAny_ready (rs:=[3]) (by kernel_rfl) (by simp) ?_
       refine AllReady.cons rfl (fun K hK=>?_) AllReady.nil
       go_simp
       refine hK _ _ ?_
       clear hK K
       refine wpAny_ready (rs:=[4]) (by kernel_rfl) (by simp) ?_
       refine AllReady.cons rfl (fun K hK=>?_) AllReady.nil
       go_simp
       refine hC1.out.mono ?_
       rintro e w2 ⟨rfl,v2,hF2,hK2,ho2⟩
       have hb22:=hb2.out w2 hK2
       have hS2:w2.cell? ⟨wr.heap.size,0,none⟩ = some (.slice aL L.length cL)∧w2.cell? ⟨wr.heap.size,1,none⟩ = some (.slice aR R.length cR):=hcc.out w2 hb22
       have c21:=hS2.2
       have hB2:Below w.heap.size wr w2:=(hBa.mono hsz).trans (hwk.out _ w2 v _ _ hFa.out hK2)
       refine hK _ _ ?_
       clear hK K
       refine wpAny_ready (rs:=[8]) (by kernel_rfl) (by simp) ?_
       refine AllReady.cons rfl (fun K hK=>?_) AllReady.nil
       go_simp
       refine (hC2.out w2 v2 hF2 hB2).mono ?_
       rintro e w3 ⟨rfl,v3,hF3,hK3,ho3⟩
       have hb33:w3.heap[wr.heap.size]? = some (.cells #[.slice aL L.length cL,.slice aR R.length cR] 40):=(hK3.2.2.2.2 wr.heap.size (Array.getElem?_eq_some_iff.1 hb22).1 (by omega) (by omega) (fun e=>by rcases ho2 _ e.symm with h | h;exact absurd (hvo.out _ h) (Nat.lt_irrefl _);rw [hsa] at h;omega)).trans hb22
       have hS3:w3.cell? ⟨wr.heap.size,0,none⟩ = some (.slice aL L.length cL)∧w3.cell? ⟨wr.heap.size,1,none⟩ = some (.slice aR R.length cR):=hcc.out w3 hb33
       have hB3:Below w.heap.size wr w3:=hB2.trans (hwk.out _ w3 v2 _ _ hF2 hK3)
       refine hK _ _ ?_
       clear hK K
       refine wpAny_ready (rs:=[9]) (by kernel_rfl) (by simp) ?_
       refine AllReady.cons rfl (fun K hK=>?_) AllReady.nil
       go_simp
       refine (hT.out w3 v3 hF3).mono ?_
       rintro e w4 ⟨qb,rfl,hK4,hq4⟩
       have hb44:w4.heap[wr.heap.size]? = some (.cells #[.slice aL L.length cL,.slice aR R.length cR] 40):=(hK4.block _ (Array.getElem?_eq_some_iff.1 hb33).1 (by omega)).trans hb33
       have hS4:w4.cell? ⟨wr.heap.size,0,none⟩ = some (.slice aL L.length cL)∧w4.cell? ⟨wr.heap.size,1,none⟩ = some (.slice aR R.length cR):=hcc.out w4 hb44
       have hB4:Below w.heap.size wr w4:=hB3.trans ⟨hK4.os,hK4.tape,hK4.output,hK4.size,fun x hx=>hK4.block x (by have:=hB3.size;omega) (by omega)⟩
       refine hK _ _ ?_
       clear hK K
       refine wpAny_ready (rs:=[10]) (by kernel_rfl) (by simp) ?_
       refine AllReady.cons rfl (fun K hK=>?_) AllReady.nil
       go_simp
       refine hK _ _ ?_
       clear hK K
       refine wpAny_done (by kernel_rfl) ?_ _
       exact ⟨rfl,qb,v3,rfl,hB4,hq4⟩
     case aft =>
      rintro e a' w4 ⟨rfl,qb,v3,rfl,hB4,hq4⟩
      clear hC1 hC2 hT hb2 hcc hS0 hS0' hwk hFa hvo hblk hBa
      rcases hq4 with ⟨rfl,h',hTL,hF4⟩ | ⟨rfl,hNo⟩
      ·go_wp2
       go_roundw
       case rel =>
        have hB4w:=hBq.out.trans hB4
        have HF4:=hid hF4
        obtain ⟨_,T4,_,_,S4,_⟩:=hF4
        exact ⟨k+1,zs++L++R,h',v3,by omega,by go_num,hid (hstep.out h' hTL ⟨T4,S4⟩),HF4,hid hB4w⟩
       case measure=>simp [intOf];omega
      ·go_wp2
       go_ret3
       have hB4w:=hBq.out.trans hB4
       exact ⟨hB4w,.inr ⟨hok.out,.inl ⟨fun θ hθ H=>hno.out hNo θ hθ (fun j hj=>H j (by omega)),rfl⟩⟩⟩
    ·obtain rfl:k = ps.length:=by omega
     obtain ⟨T,hS⟩:=hM.out.st
     obtain ⟨b,c,rfl,T',N,S',hWb,_⟩:=hF.out.st (by have:=hM.out.good.eight;omega)
     have hTB:=hid (turnsBack_any zs hM.out.good T' h S' (W0+1) W0 b 0 c N wr hWb)
     have hGr:=hid (fun w7 (hB7:Below wr.heap.size wr w7) f (hf:∀ i,i < 8→Wb.Exp zs h i (f i))=>grow_any zs hM.out.good T' h S' (W0+1) W0 b 0 c N f hf w7 (hWb.below hB7))
     clear hWb hS
     go_wp2_with (first
      | (go_at_call 135;refine hTB.out.mono ?_;clear hTB;rintro e w7 ⟨hB7,(⟨rfl,hNo⟩ | ⟨rfl,hFin⟩)⟩)
      | (go_at_call 136;obtain ⟨σ,hσ,hE⟩:=hM.out.mgu hFin;refine (hGr.out w7 hB7 (fun i:Nat=>σ (-1 - (i:Int))) hE).mono ?_;clear hGr;rintro e w8 ⟨hB8,(⟨h30,a8,rfl,hS8⟩ | ⟨h30,rfl⟩)⟩))
     ·go_ret3
      exact ⟨hBq.out.trans (hB7.mono hBq.out.size),.inr ⟨hok.out,.inl ⟨fun θ hθ H=>hNo θ hθ (hM.out.sound θ hθ H),rfl⟩⟩⟩
     ·go_ret3
      have hB78:=hBq.out.trans (hB7.mono hBq.out.size)
      exact ⟨hB78.trans (hB8.mono hB78.size),.inr ⟨hok.out,.inr ⟨σ,hσ,.inl ⟨h30,a8,rfl,hS8⟩⟩⟩⟩
     ·go_ret3
      have hB78:=hBq.out.trans (hB7.mono hBq.out.size)
      exact ⟨hB78.trans (hB8.mono hB78.size),.inr ⟨hok.out,.inr ⟨σ,hσ,.inr ⟨h30,rfl⟩⟩⟩⟩
theorem Tm.known_of {s:Int} (h1:-8≤s) (h2:s < 6):Tm.known s = true:=by
 simp [Tm.known]
 omega
theorem Tm.firstErr_of {ss:List (List Int)} (h:∀ k,k < ss.length→Tm.err (ss[k]?.getD []) = 0):Tm.firstErr ss = 0:=by
 induction ss with
 | nil=>rfl
 | cons t l ih =>
  rw [Tm.firstErr,if_pos (by simpa using h 0 (by simp))]
  exact ih fun k hk=>by simpa using h (k+1) (by simpa using hk)
def Tm.sbL (σ:Wb.Sb):List (List Int):=(List.range 8).map fun i:Nat=>σ (-1 - (i:Int))
theorem Tm.sbL_length (σ:Wb.Sb):(Tm.sbL σ).length = 8:=by simp [Tm.sbL]
theorem Tm.sbL_at (σ:Wb.Sb) {i:Nat} (h:i < 8):(Tm.sbL σ)[i]?.getD [] = σ (-1 - (i:Int)):=by
 unfold Tm.sbL
 rw [List.getElem?_map,List.getElem?_range h]
 rfl
theorem Tm.sbL_congr {σ τ:Wb.Sb} (h:∀ v,-8≤v→v < 0→σ v = τ v):Tm.sbL σ = Tm.sbL τ:=by
 unfold Tm.sbL
 refine List.map_congr_left fun i hi=>?_
 have:=List.mem_range.1 hi
 exact h _ (by omega) (by omega)
theorem Tm.piece_sbL (σ:Wb.Sb) {s:Int} (h8:-8≤s):Tm.piece (Tm.sbL σ) s = if s < 0 then σ s else [s]:=by
 unfold Tm.piece
 by_cases hs:s < 0
 ·rw [if_pos hs,if_pos hs,Tm.sbL_at σ (by omega),show -1 - (((-1 - s).toNat:Nat):Int) = s from by omega]
 ·rw [if_neg hs,if_neg hs]
theorem Tm.applied_sbL (σ:Wb.Sb):∀ (t:List Int),t.all Tm.known = true→Tm.applied (Tm.sbL σ) t = Wb.App σ t:=by
 intro t
 induction t with
 | nil=>intro _;rfl
 | cons s l ih =>
  intro h
  rw [List.all_cons,Bool.and_eq_true] at h
  rw [Tm.applied_cons,Wb.App_cons,ih h.2,Tm.piece_sbL σ (Tm.known_ge h.1)]
def Tm.ofL (us:List (List Int)) (s:Int):List Int:=if -8≤s then us[(-1 - s).toNat]?.getD [] else [s]
theorem Tm.ofL_at (us:List (List Int)) {i:Nat} (h:i < 8):Tm.ofL us (-1 - (i:Int)) = us[i]?.getD []:=by
 unfold Tm.ofL
 rw [if_pos (by omega),show (-1 - (-1 - (i:Int))).toNat = i from by omega]
theorem Tm.sbL_ofL {us:List (List Int)} (h:us.length = 8):Tm.sbL (Tm.ofL us) = us:=by
 refine List.ext_getElem (by rw [Tm.sbL_length,h]) fun i h1 h2=>?_
 rw [Tm.sbL_length] at h1
 have e:=Tm.sbL_at (Tm.ofL us) h1
 rw [Tm.ofL_at us h1] at e
 rw [List.getElem?_eq_getElem (by rw [Tm.sbL_length];exact h1),List.getElem?_eq_getElem h2] at e
 exact e
theorem Tm.ofL_term {us:List (List Int)} (h:Tm.subErr us = 0):Wb.TermSb (Tm.ofL us):=fun s hs=>by
 unfold Tm.ofL
 obtain ⟨h1,h2⟩:=Tm.subErr_ok h
 by_cases h8:-8≤s
 ·rw [if_pos h8]
  exact Tm.err_run (Tm.firstErr_all h2 _ (by omega))
 ·rw [if_neg h8]
  have:Tm.room s = 0:=Wb.room_var hs
  rw [show (1:Nat) = 0+1 from rfl,Tm.run_cons,this,Tm.run_zero]
  rfl
def Tm.MeetSays (ps:PairL) (er:Int) (is:Bool) (val:List (List Int)):Prop :=
 (Tm.firstPair ps≠0∧er = Tm.firstPair ps∧is = false∧val = []) ∨
 (Tm.firstPair ps = 0∧(∀ θ,Wb.TermSb θ→¬ Wb.Same ps ps.length θ)∧er = 0∧is = false∧val = []) ∨
 (Tm.firstPair ps = 0∧∃ σ,Wb.Mgu ps σ∧(∀ i:Nat,i < 8→(σ (-1 - (i:Int))).length≤30)∧er = 0∧is = true∧val = Tm.sbL σ) ∨
 (Tm.firstPair ps = 0∧∃ σ,Wb.Mgu ps σ∧(∃ i:Nat,i < 8∧30 < (σ (-1 - (i:Int))).length)∧er = 2∧is = false∧val = [])
theorem Tm.MeetSays.one {ps:PairL} {er er':Int} {is is':Bool} {val val':List (List Int)} (A:Tm.MeetSays ps er is val) (B:Tm.MeetSays ps er' is' val'):er = er'∧is = is'∧val = val':=by
 rcases A with ⟨a1,rfl,rfl,rfl⟩ | ⟨a1,a2,rfl,rfl,rfl⟩ | ⟨a1,σ,a2,a3,rfl,rfl,rfl⟩ | ⟨a1,σ,a2,⟨i,hi,a3⟩,rfl,rfl,rfl⟩ <;>
 rcases B with ⟨b1,rfl,rfl,rfl⟩ | ⟨b1,b2,rfl,rfl,rfl⟩ | ⟨b1,τ,b2,b3,rfl,rfl,rfl⟩ | ⟨b1,τ,b2,⟨j,hj,b3⟩,rfl,rfl,rfl⟩
 ·exact ⟨rfl,rfl,rfl⟩
 ·exact absurd b1 a1
 ·exact absurd b1 a1
 ·exact absurd b1 a1
 ·exact absurd a1 b1
 ·exact ⟨rfl,rfl,rfl⟩
 ·exact absurd b2.same (a2 τ b2.term)
 ·exact absurd b2.same (a2 τ b2.term)
 ·exact absurd a1 b1
 ·exact absurd a2.same (b2 σ a2.term)
 ·exact ⟨rfl,rfl,Tm.sbL_congr (a2.one b2)⟩
 ·have:=a2.one b2 (-1 - (j:Int)) (by omega) (by omega)
  have h:=a3 j hj
  rw [this] at h
  omega
 ·exact absurd a1 b1
 ·exact absurd a2.same (b2 σ a2.term)
 ·have:=a2.one b2 (-1 - (i:Int)) (by omega) (by omega)
  have h:=b3 i hi
  rw [← this] at h
  omega
 ·exact ⟨rfl,rfl,rfl⟩
theorem Wb.Mgu.errs {ps:PairL} {σ:Wb.Sb} (M:Wb.Mgu ps σ) (h:∀ i:Nat,i < 8→(σ (-1 - (i:Int))).length≤30):Tm.subErr (Tm.sbL σ) = 0:=by
 have h1:Tm.firstErr (Tm.sbL σ) = 0:=by
  refine Tm.firstErr_of fun i hi=>?_
  rw [Tm.sbL_length] at hi
  rw [Tm.sbL_at σ hi]
  refine Tm.err_ok (h i hi) ?_ (M.term _ (by omega))
  rw [List.all_eq_true]
  intro s hs
  obtain ⟨h1,h2⟩:=M.vars _ (by omega) (by omega) s hs
  exact Tm.known_of h1 h2
 unfold Tm.subErr
 rw [if_pos (Tm.sbL_length σ),h1]
theorem Tm.firstPair_one (a b:List Int):Tm.firstPair [(a,b)] = Tm.pairErr a b:=by
 rw [Tm.firstPair]
 by_cases h:Tm.pairErr a b = 0
 ·rw [if_pos h,h];rfl
 ·rw [if_neg h]
theorem Tm.pairErr_zero {a b:List Int}:Tm.pairErr a b = 0 ↔ Tm.err a = 0∧Tm.err b = 0:=by
 unfold Tm.pairErr
 by_cases h:Tm.err a = 0
 ·rw [if_pos h];exact ⟨fun e=>⟨h,e⟩,fun e=>e.2⟩
 ·rw [if_neg h];exact ⟨fun e=>absurd e h,fun e=>absurd e.1 h⟩
theorem Tm.meet_true {a b:List Int} {val:List (List Int)} (A:Tm.MeetSays [(a,b)] 0 true val):Tm.subErr val = 0∧Tm.err a = 0∧Tm.err b = 0∧Tm.applied val a = Tm.applied val b∧Tm.afterErr val val = 0∧Tm.afterVal val val = val:=by
 rcases A with ⟨_,_,h,_⟩ | ⟨_,_,_,h,_⟩ | ⟨a1,σ,M,h30,_,_,rfl⟩ | ⟨_,σ,_,_,_,h,_⟩
 ·cases h
 ·cases h
 ·rw [Tm.firstPair_one,Tm.pairErr_zero] at a1
  have hs:=M.errs h30
  have hss:Tm.afterL (Tm.sbL σ) (Tm.sbL σ) = Tm.sbL σ:=by
   unfold Tm.afterL
   rw [Tm.sbL,List.map_map]
   refine List.map_congr_left fun i hi=>?_
   have:=List.mem_range.1 hi
   show Tm.applied (Tm.sbL σ) (σ _) = σ _
   rw [Tm.applied_sbL σ _ (by
    rw [List.all_eq_true]
    intro s hs
    obtain ⟨h1,h2⟩:=M.vars _ (by omega) (by omega) s hs
    exact Tm.known_of h1 h2)]
   exact (M.most σ M.term M.same _ (by omega) (by omega)).symm
  have he:Tm.afterErr (Tm.sbL σ) (Tm.sbL σ) = 0:=by
   unfold Tm.afterErr
   rw [if_pos hs,if_pos hs,if_pos]
   rw [List.all_eq_true]
   intro t ht
   have hm:Tm.applied (Tm.sbL σ) t∈Tm.afterL (Tm.sbL σ) (Tm.sbL σ):=List.mem_map_of_mem ht
   rw [hss] at hm
   unfold Tm.fits
   rw [decide_eq_true_eq]
   obtain ⟨i,hi,e⟩:=List.mem_map.1 hm
   rw [← e]
   exact h30 i (List.mem_range.1 hi)
  refine ⟨hs,a1.1,a1.2,?_,he,by unfold Tm.afterVal;rw [if_pos he,hss]⟩
  rw [Tm.applied_sbL σ a (Tm.err_all a1.1),Tm.applied_sbL σ b (Tm.err_all a1.2)]
  exact M.same 0 (by simp)
 ·cases h
theorem MeetAns.says {ps:PairL} {W:World} {e:Ending} (h:MeetAns ps W e):∃ er is val a,Tm.MeetSays ps er is val∧e = .returned (.tuple #[.slice a val.length val.length,.bool is,.int .i64 er])∧Subs W.heap.size W a val:=by
 rcases h with ⟨h1,rfl⟩ | ⟨h1,⟨h2,rfl⟩ | ⟨σ,M,⟨h30,a,rfl,hS⟩ | ⟨h30,rfl⟩⟩⟩
 ·exact ⟨_,_,[],none,.inl ⟨h1,rfl,rfl,rfl⟩,rfl,Subs.nil _ _ _⟩
 ·exact ⟨_,_,[],none,.inr (.inl ⟨h1,h2,rfl,rfl,rfl⟩),rfl,Subs.nil _ _ _⟩
 ·exact ⟨_,_,Tm.sbL σ,a,.inr (.inr (.inl ⟨h1,σ,M,h30,rfl,rfl,rfl⟩)),by rw [Tm.sbL_length],hS⟩
 ·exact ⟨_,_,[],none,.inr (.inr (.inr ⟨h1,σ,M,h30,rfl,rfl,rfl⟩)),rfl,Subs.nil _ _ _⟩
theorem rulesAt_of {n B:Nat} {W:World} {rs:RuleL} {cs:Array Value} {t:TypeId} {p:Nat × Nat} (hblk:W.heap[B]? = some (.cells cs t p)) (hB:B < n)
 (h:∀ k,k < rs.length→∃ aL aR,cs[k * 2]? = some (.slice aL (rs[k]?.getD ([],[])).1.length (rs[k]?.getD ([],[])).1.length)∧cs[k * 2+1]? = some (.slice aR (rs[k]?.getD ([],[])).2.length (rs[k]?.getD ([],[])).2.length) ∧
   Ints n W aL (rs[k]?.getD ([],[])).1∧Ints n W aR (rs[k]?.getD ([],[])).2∧(rs[k]?.getD ([],[])).1.length≤1000∧(rs[k]?.getD ([],[])).2.length≤1000):RulesAt n W (some ⟨B,0,none⟩) rs:=fun k hk=>by
 obtain ⟨aL,aR,h1,h2,h3,h4,h5,h6⟩:=h k hk
 refine ⟨B,0,rfl,hB,aL,_,aR,_,by rw [cell_at hblk,Nat.zero_add];exact h1,by rw [cell_at hblk,Nat.zero_add];exact h2,h3,h4,Nat.le_refl _,by unfold maxLen;omega,Nat.le_refl _,by unfold maxLen;omega⟩
def allocs:World→List (List Int)→World
 | w,[]=>w
 | w,z :: l=>allocs (w.alloc (.cells (z.map (Value.int .i64)).toArray 3)) l
theorem allocs_size:∀ (l:List (List Int)) (w:World),(allocs w l).heap.size = w.heap.size+l.length:=by
 intro l
 induction l with
 | nil=>intro w;rfl
 | cons z l ih=>intro w;rw [allocs,ih,World.size_alloc,List.length_cons];omega
theorem allocs_below:∀ (l:List (List Int)) (w:World),Below w.heap.size w (allocs w l):=by
 intro l
 induction l with
 | nil=>intro w;exact Below.refl _ _
 | cons z l ih =>
  intro w
  rw [allocs]
  exact ((Below.refl _ w).alloc (Nat.le_refl _) _).trans ((ih _).mono (by simp))
theorem allocs_ints:∀ (l:List (List Int)) (w:World) (i:Nat),i < l.length→Ints (w.heap.size+l.length) (allocs w l) (some ⟨w.heap.size+i,0,none⟩) (l[i]?.getD []):=by
 intro l
 induction l with
 | nil=>intro w i hi;simp at hi
 | cons z l ih =>
  intro w i hi
  rw [allocs]
  cases i with
  | zero =>
   have h1:=ints_lit w z (w.heap.size+1) rfl
   have h2:=h1.below (by rw [← World.size_alloc w (.cells (z.map (Value.int .i64)).toArray 3)];exact allocs_below l _)
   exact h2.mono (by rw [List.length_cons];omega)
  | succ i =>
   have h:=ih (w.alloc (.cells (z.map (Value.int .i64)).toArray 3)) i (by simpa using hi)
   rw [World.size_alloc] at h
   rw [show w.heap.size+(i+1) = w.heap.size+1+i from by omega,show w.heap.size+(z :: l).length = w.heap.size+1+l.length from by rw [List.length_cons];omega]
   exact h
theorem g_same (xs ys:List Int) (n m c:Nat) (a:Option Addr) (w:World) (hn:n = xs.length) (hm:m = ys.length) (hl:xs.length≤1000) (hI:Ints w.heap.size w a xs) (h:sameB xs ys = true) :
 Calls Tryz.prog 25 #[.slice a n c,.slice (some ⟨w.heap.size,0,none⟩) m m] (w.alloc (.cells (ys.map (Value.int .i64)).toArray 3)) fun e w'=>e = .returned (.bool true)∧Below w.heap.size w w':=by
 subst hn hm
 have hB:Below w.heap.size w (w.alloc (.cells (ys.map (Value.int .i64)).toArray 3)):=(Below.refl _ _).alloc (Nat.le_refl _) _
 refine (same_any xs ys a _ c ys.length _ ((hI.below hB).mono hB.size) (ints_lit w ys _ (by simp)) (by unfold maxLen;omega)).mono ?_
 rintro e w' ⟨rfl,hB'⟩
 exact ⟨by rw [h],hB.trans (hB'.mono hB.size)⟩
set_option maxRecDepth 100000 in
set_option maxHeartbeats 1000000 in
theorem Meet_any (a b:List Int) (aa ab:Option Addr) (ca cb:Nat) (w:World) (hA:Ints w.heap.size w aa a) (hB:Ints w.heap.size w ab b) (ha1:a.length≤ca) (ha2:ca≤maxLen) (hb1:b.length≤cb) (hb2:cb≤maxLen) :
 Calls Tryz.prog 106 #[.slice aa a.length ca,.slice ab b.length cb] w fun e w'=>Below w.heap.size w w'∧∃ er is val x,Tm.MeetSays [(a,b)] er is val∧e = .returned (.tuple #[.slice x val.length val.length,.bool is,.int .i64 er])∧Subs w'.heap.size w' x val:=by
 have hBl:Below w.heap.size w (w.alloc (.cells #[.slice aa a.length ca,.slice ab b.length cb] 40)):=(Below.refl _ w).alloc (Nat.le_refl _) _
 have blk:(w.alloc (.cells #[.slice aa a.length ca,.slice ab b.length cb] 40)).heap[w.heap.size]? = some (.cells #[.slice aa a.length ca,.slice ab b.length cb] 40):=World.alloc_heap_new w _
 have hR:RulesAt (w.alloc (.cells #[.slice aa a.length ca,.slice ab b.length cb] 40)).heap.size (w.alloc (.cells #[.slice aa a.length ca,.slice ab b.length cb] 40)) (some ⟨w.heap.size,0,none⟩) [(a,b)]:=by
  intro k hk
  obtain rfl:k = 0:=by simp at hk;omega
  exact ⟨w.heap.size,0,rfl,by simp,aa,ca,ab,cb,(cell_at blk 0).trans rfl,(cell_at blk 1).trans rfl,(hA.below hBl).mono hBl.size,(hB.below hBl).mono hBl.size,ha1,ha2,hb1,hb2⟩
 have hM:=hid (meet_any [(a,b)] (by simp) (some ⟨w.heap.size,0,none⟩) 1 _ hR)
 have HB:=hid hBl
 clear hR blk hA hB hBl
 go_enter Tryz.func106,Tryz.ntmps106
 go_wp2_with fail
 refine hM.out.mono ?_
 rintro e w2 ⟨hB2,hAns⟩
 obtain ⟨er,is,val,x,hs,rfl,hS⟩:=hAns.says
 have Hs:=hid hs
 have HS:=hid hS
 clear hM hAns hs hS
 go_wp2
 go_ret3
 exact ⟨HB.out.trans (hB2.mono HB.out.size),er,is,val,x,Hs.out,rfl,HS.out⟩
theorem Wb.split {x y r s:List Int} (hx:Tm.run x 1 = x.length) (hy:Tm.run y 1 = y.length) (h:x++r = y++s):x = y∧r = s:=by
 have h1:=Tm.run_app x r 1 (by omega)
 have h2:=Tm.run_app y s 1 (by omega)
 rw [h,h2,hx,hy] at h1
 exact List.append_inj h h1.symm
theorem Wb.App1 (θ:Wb.Sb) {v:Int} (h:v < 0):Wb.App θ [v] = θ v:=by rw [Wb.App_cons,if_pos h,Wb.App_nil,List.append_nil]
theorem Tryz.info40:(Tryz.prog.info? 40).map (fun i=>(i.zero,i.size,i.bytes)) = some (some (.agg #[.slice none 0 0,.slice none 0 0]),2,48):=by kernel_rfl
end Go.Proofs.YtglohanbpjaieaaGreat
