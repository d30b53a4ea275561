/-
  Parts of the proof: Rul9.
-/
import Derived.Test.YtglohanbpjaieaaGreatBru16
set_option maxHeartbeats 4000000
set_option maxRecDepth 100000
namespace Go.Proofs.YtglohanbpjaieaaGreat
open Go.Proofs Go.RowKit Go.Shelf Go.Maps
section
attribute [local go_sem] Oper.semAt_some
attribute [local go_sem ↓] Go.wp_at_zero Go.wp_at_succ
theorem si {n:Nat} {W:World} {aL:Option Addr} {L:List Int} {cL:Nat} (h:Ints n W aL L) (hp:0 < L.length):aL = none→cL = 0:=fun e=>by
 obtain ⟨b,off,e',_⟩:=h 0 hp;rw [e] at e';cases e'
theorem qJ (w W4:World) (al at':Option Addr) (nl cl nt ct:Nat) (qd:(((w.alloc (.cells #[.slice al nl cl] 23)).alloc (.cells #[.slice at' nt ct] 35)).alloc (.cells #[.slice none 0 0] 43)).alloc (.cells #[.int .i64 0] 25) = W4) :
 Below w.heap.size w W4∧Boxed W4 w.heap.size 23 (.slice al nl cl)∧Boxed W4 (w.heap.size+1) 35 (.slice at' nt ct)∧Boxed W4 (w.heap.size+1+1) 43 (.slice none 0 0)∧Boxed W4 (w.heap.size+1+1+1) 25 (.int .i64 0)∧W4.heap.size = w.heap.size+1+1+1+1:=by
 have hB4:Below w.heap.size w W4:=by rw [← qd];exact ((((Below.refl _ w).alloc (Nat.le_refl _) _).alloc (by simp) _).alloc (by simp;omega) _).alloc (by simp;omega) _
 have bL:Boxed W4 w.heap.size 23 (.slice al nl cl):=by rw [← qd];exact (((Boxed.new w 23 (.slice al nl cl)).alloc _).alloc _).alloc _
 have bT:Boxed W4 (w.heap.size+1) 35 (.slice at' nt ct):=by
  rw [← qd];have h:=Boxed.new (w.alloc (.cells #[.slice al nl cl] 23)) 35 (.slice at' nt ct);rw [World.size_alloc] at h;exact (h.alloc _).alloc _
 have b0:Boxed W4 (w.heap.size+1+1) 43 (.slice none 0 0):=by
  rw [← qd];have h:=Boxed.new ((w.alloc (.cells #[.slice al nl cl] 23)).alloc (.cells #[.slice at' nt ct] 35)) 43 (.slice none 0 0);simp only [World.size_alloc] at h;exact h.alloc _
 have b1:Boxed W4 (w.heap.size+1+1+1) 25 (.int .i64 0):=by
  rw [← qd];have h:=Boxed.new (((w.alloc (.cells #[.slice al nl cl] 23)).alloc (.cells #[.slice at' nt ct] 35)).alloc (.cells #[.slice none 0 0] 43)) 25 (.int .i64 0);simpa only [World.size_alloc] using h
 have hs4:W4.heap.size = w.heap.size+1+1+1+1:=by rw [← qd];simp
 exact ⟨hB4,bL,bT,b0,b1,hs4⟩
def fP (rs:aH) (t:List Int) (w:World) (e:Ending) (w':World):Prop:=∃ v,e = .returned (.tuple #[v,.int .i64 (Tm.bn rs t)])∧fI w.heap.size w' v (Tm.bD rs t)∧Below w.heap.size w w'
structure abZ (rs:aH) (t:List Int) (w2:World) (B:Nat) (tv:Value) (m:Nat) (W:World):Prop where
 no:Tm.mf rs t m = 0
 inv:zl w2 B tv (Tm.jO rs t m) W
structure ab0 (rs:aH) (t:List Int) (w:World) (n:Nat) (c:Code) (W:World):Prop where
 ret:c = .ret
 bad:Tm.mf rs t t.length≠0
 b0:Boxed W (n+1+1) 43 (.slice none 0 0)
 b1:Boxed W (n+1+1+1) 25 (.int .i64 (Tm.mf rs t t.length))
 kp:Below n w W
theorem J7 (rs:aH) (t:List Int) (al at':Option Addr) (cl ct:Nat) (w:World) (hr:Tm.aO rs = 0) (ht:Tm.err t = 0) (hR:aJ w.heap.size w al rs) (hT:Ints w.heap.size w at' t) (h1:t.length≤ct) (h2:ct≤maxLen) :
 Calls Tryz.prog 18 #[.slice al rs.length cl,.slice at' t.length ct] w fun e w'=>fP rs t w e w':=by
 obtain ⟨F,hF⟩:∃ F,F = Fence.wide:=⟨_,rfl⟩;refine (callsIn_wide (n:=3)).1 ?_;rw [← hF];obtain ⟨hro,hfn,hdd,jv⟩:=fC hF;have qz:Hid (Pl F):=by rw [hF];exact iZ
 have HF:=hid hF;clear hF;have hf1:=hfn 18;have hf2:=hfn 48;have hf3:=hfn 49;have PU:=hfn 50;have RZ:=hfn 70;have hf6:=hfn 51;have hf7:=hfn 52;clear hfn;have l30:=Tm.aI ht;have Vw:=Tm.bM ht;obtain ⟨h8,hall⟩:=Tm.di hr;obtain ⟨W4,qd⟩:∃ W4,(((w.alloc (.cells #[.slice al rs.length cl] 23)).alloc (.cells #[.slice at' t.length ct] 35)).alloc (.cells #[.slice none 0 0] 43)).alloc (.cells #[.int .i64 0] 25) = W4:=⟨_,rfl⟩;obtain ⟨hB4,bL,bT,b0,b1,hs4⟩:=qJ w W4 al at' rs.length cl t.length ct qd;have HW4:=hid qd;clear qd;have cL4:=bL.cell;have C1:=hid (jv (n:=2) (gL rs al cl W4 ((hR.below hB4).mono hB4.size)));rw [hr] at C1;have C2:=hid (fun W (hW:Below W4.heap.size W4 W)=>jv (n:=2) (dZ t at' ct W ((hT.below (hB4.trans (hW.mono hB4.size))).mono (Nat.le_trans hB4.size hW.size))));rw [ht] at C2;refine callsIn_of_wp_marks Tryz.func18 rfl hf1 ?_ hro;simp only [Tryz.ntmps18,List.size_toArray,List.length_cons,List.length_nil,Nat.reduceAdd,Nat.reduceSub,Array.replicate_succ,Array.replicate_zero,List.push_toArray,List.append_toArray,List.nil_append,List.cons_append];gi_wp2_with fail
 rw [HW4.out];gi_wp2_with (first
  | ((try refine ⟨hdd _,?_⟩);gi_at_call 48;refine C1.out.mono ?_;rintro e w1 ⟨rfl,hB1⟩;have cT1:=(hB1.cell (p:=⟨w.heap.size+1,0,none⟩) (by show w.heap.size+1 < _;omega)).trans bT.cell)
  | ((try refine ⟨hdd _,?_⟩);gi_at_call 49;refine (C2.out w1 hB1).mono ?_;rintro e w2 ⟨rfl,hB2⟩;have dN:=hB1.trans (hB2.mono hB1.size);have cT2:=(dN.cell (p:=⟨w.heap.size+1,0,none⟩) (by show w.heap.size+1 < _;omega)).trans bT.cell;have cT3:(w2.alloc (.cells #[.slice none 0 0] 43)).cell? ⟨w.heap.size+1,0,none⟩ = some (.slice at' t.length ct):=(World.cell?_of_block (a:=⟨w.heap.size+1,0,none⟩) (Below.heap_alloc w2 _ (w.heap.size+1) (by have:=dN.size;omega))).trans cT2)
  | ((try refine ⟨hdd _,?_⟩);gi_at_call 50;refine (Ei F qz.out _ _ _ _ _).mono ?_;rintro e w' ⟨rfl,rfl⟩))
 have hBw2:Below w.heap.size w w2:=hB4.trans (dN.mono hB4.size);have hn2:w.heap.size+1+1+1+1≤w2.heap.size:=by have:=dN.size;omega
 have OW:=(dN.cell (p:=⟨w.heap.size,0,none⟩) (by show w.heap.size < _;omega)).trans cL4;have b02:Boxed w2 (w.heap.size+1+1) 43 (.slice none 0 0):=(dN.block _ b0.lt).trans b0;have b12:Boxed w2 (w.heap.size+1+1+1) 25 (.int .i64 0):=(dN.block _ b1.lt).trans b1;have bO:=(Boxed.new w2 43 (.slice none 0 0)).alloc (.cells #[.slice at' t.length ct] 35);have bP:=Boxed.new (w2.alloc (.cells #[.slice none 0 0] 43)) 35 (.slice at' t.length ct);rw [World.size_alloc] at bP;have hB3:Below w2.heap.size w2 ((w2.alloc (.cells #[.slice none 0 0] 43)).alloc (.cells #[.slice at' t.length ct] 35)):=((Below.refl _ w2).alloc (Nat.le_refl _) _).alloc (by simp) _;have I0:abZ rs t w2 w2.heap.size (.slice at' t.length ct) 0 ((w2.alloc (.cells #[.slice none 0 0] 43)).alloc (.cells #[.slice at' t.length ct] 35)):=⟨rfl,⟨⟨_,bO,fI.nil _ _⟩,bP,hB3⟩⟩;have hs5:((w2.alloc (.cells #[.slice none 0 0] 43)).alloc (.cells #[.slice at' t.length ct] 35)).heap.size = w2.heap.size+1+1:=by simp
 obtain ⟨W5,mG⟩:∃ W5,(w2.alloc (.cells #[.slice none 0 0] 43)).alloc (.cells #[.slice at' t.length ct] 35) = W5:=⟨_,rfl⟩;rw [mG] at I0 hs5 ⊢;have HR:=hid hR;have HT:=hid hT;have nH:=hid hall;have VE:=hid (show Tm.bn rs t = Tm.mf rs t t.length by unfold Tm.bn;rw [if_pos hr,if_pos ht]);have OU:(t.length:Int)≤30:=by omega
 have h8':(rs.length:Int)≤8:=by omega
 clear mG bO bP hB3 cT1 cT3 hB1 hB2 C1 C2 HW4 cL4 bL bT b0 b1 hR hT hall hr hB4;refine dU hro (by omega) (gf:=70) (lb:=#[.pointer (some ⟨w2.heap.size+1,0,none⟩)]) rfl RZ (enters_of Tryz.func70 (by kernel_rfl) rfl)
  (zk F qz.out _ (w2.heap.size+1) ct at' t (by omega)) (fun _=>rfl)
  (abZ rs t w2 w2.heap.size (.slice at' t.length ct)) (ab0 rs t w w.heap.size) (fun _ _=>False) (.inl fun _ _ h=>h)
  (by
    rintro m X Y row ⟨no,inv⟩ hg hr;exact ⟨no,inv.own (Nat.le_refl _) (by omega) hg hr⟩)
  (by
    rintro c X Y row ⟨h1,h2,h3,h4,kp⟩ hg hr;exact ⟨h1,h2,dm h3 hg hr,dm h4 hg hr,⟨hg.os.trans kp.os,hg.tape.trans kp.tape,hg.output.trans kp.output,Nat.le_trans kp.size hg.size,fun k hk=>(hg.block k (by have:=kp.size;omega) (fun e=>by have:=(hr k e.symm).1;omega)).trans (kp.block k hk)⟩⟩)
  (fun m W hI=>⟨hI.inv.bP.cell,by
    have hb:=hBw2.trans (hI.inv.kp.mono (by omega));exact (HT.out.below hb).mono hb.size⟩)
  I0
  (fun m=>{ tmps:=#[.slice al rs.length cl,.slice at' t.length ct,.pointer (some ⟨w.heap.size,0,none⟩),.pointer (some ⟨w.heap.size+1,0,none⟩),.pointer (some ⟨w.heap.size+1+1,0,none⟩),.pointer (some ⟨w.heap.size+1+1+1,0,none⟩),.int .i64 0,.int .i64 0,.pointer (some ⟨w2.heap.size,0,none⟩),.int .i64 (m:Int),.int .i64 (Tm.ai t m:Int),
    undef,undef,undef,undef,undef,undef,undef,.slice al rs.length cl,.int .i64 0,.int .i64 0,.bool false,undef,.slice at' t.length ct,.int .i64 0,.int .i64 0,.bool false,undef,.slice at' t.length ct,.func (.func 70) #[] #[.pointer (some ⟨w2.heap.size+1,0,none⟩)],.int .i64 (m:Int),.int .i64 (Tm.ai t m:Int),
    undef,undef,undef,undef,undef,undef,undef,undef,undef,undef,undef,undef,undef,undef,undef,undef,undef,undef,undef,undef,undef,undef,undef,undef,undef,undef,undef,undef,undef,undef,undef,undef,undef,undef,undef,undef,undef,undef,undef,undef,undef],defers:=[] }) ?assign ?body ?done ?stop ?panic
 case assign =>
  intro l m W K hK;simp only [SI];gi_wp2
  exact hK
 case body =>
  rintro l m W ⟨no,inv⟩ hm;have cL:=(inv.kp.cell (p:=⟨w.heap.size,0,none⟩) (by show w.heap.size < _;omega)).trans OW;have Hno:=hid no;have Vx:=hid inv;clear no inv;gi_wp2_with fail
  gi_loopw [34] (fun v X=>∃ k:Nat,k≤rs.length∧v = .int .i64 (k:Int)∧Hid (Tm.rowE rs t m k = 0)∧Hid (zl w2 w2.heap.size (.slice at' t.length ct) (Tm.jO rs t m++Tm.lK rs t m k) X)∧KeepsFrom W5.heap.size W X) (fun v _=>rs.length - (intOf v).toNat)
  case atStart=>exact ⟨0,Nat.zero_le _,rfl,hid rfl,hid (by rw [Tm.lK,List.append_nil];exact Vx.out),KeepsFrom.refl _ _⟩
  case round =>
   obtain ⟨k,hk,rfl,hrow,hinv,R6⟩:=hrel;by_cases hlt:k < rs.length
   ·have hlt':(k:Int) < (rs.length:Int):=by omega
    have hbW:=hBw2.trans (hinv.out.kp.mono (by omega));obtain ⟨b,off,rfl,hb,aL,Qd,aR,cR,g1,g2,g3,g4,g5,g6,g7,g8⟩:=(HR.out.below hbW) k hlt;obtain ⟨eL,eR,_⟩:=Tm.bI (nH.out k hlt);have hno:=hid (Tm.OM (rs:=rs) (t:=t) hrow.out);have hye:=hid (Tm.JZ (rs:=rs) (t:=t) hrow.out);have hLn:=hid (Tm.OO (rs:=rs) (t:=t) (a:=m) (n:=k));have Vd:=hid (Tm.J2 (rs:=rs) (t:=t) (a:=m) (n:=k));have hstop:=hid (Tm.Gf (rs:=rs) (t:=t) Hno.out hrow.out hm hlt);have hbv:Tm.rF rs t m k = Tm.rM (rs[k]?.getD ([],[])).1 (Tm.part t m):=rfl;have hev:Tm.je rs t m k = Tm.kI (Tm.lJ (rs[k]?.getD ([],[])).1 (Tm.part t m)) t (m:Int) (rs[k]?.getD ([],[])).2:=rfl;have hvv:Tm.oU rs t m k = Tm.kJ (Tm.lJ (rs[k]?.getD ([],[])).1 (Tm.part t m)) t (m:Int) (rs[k]?.getD ([],[])).2:=rfl;generalize (rs[k]?.getD ([],[])).1 = L at *;generalize (rs[k]?.getD ([],[])).2 = R at *;have lL:=Tm.aI eL;have pL:=Tm.bM eL;have pgt:=Tm.dw t m;have ple:=Tm.fV ht hm;have hpl:=Tm.dF ht hm;have hpe:=Tm.dC ht hm;obtain ⟨bt,ot,rfl,hbt,_⟩:=HT.out.at Vw;have hBa:Below wr.heap.size wr (wr.alloc (.cells #[.slice aL L.length Qd,.slice aR R.length cR] 54)):=(Below.refl _ wr).alloc (Nat.le_refl _) _;have hblk:=World.alloc_heap_new wr (.cells #[.slice aL L.length Qd,.slice aR R.length cR] 54);obtain ⟨W6,hW6⟩:∃ W6,wr.alloc (.cells #[.slice aL L.length Qd,.slice aR R.length cR] 54) = W6:=⟨_,rfl⟩;have hs6:W6.heap.size = wr.heap.size+1:=by rw [← hW6];simp
    rw [hW6] at hBa hblk;have d0:W6.cell? ⟨wr.heap.size,0,none⟩ = some (.slice aL L.length Qd):=by simp [World.cell?,hblk]
    have d1:W6.cell? ⟨wr.heap.size,1,none⟩ = some (.slice aR R.length cR):=by simp [World.cell?,hblk]
    have hb6:Below w.heap.size w W6:=hbW.trans (hBa.mono hbW.size);have cT6:W6.cell? ⟨w.heap.size+1,0,none⟩ = some (.slice (some ⟨bt,ot,none⟩) t.length ct):=by
     have hk6:Below w2.heap.size w2 W6:=hinv.out.kp.trans (hBa.mono hinv.out.kp.size);exact (hk6.cell (p:=⟨w.heap.size+1,0,none⟩) (by show w.heap.size+1 < _;omega)).trans cT2
    have ab1:=hid (hinv.out.below (Nat.le_refl _) hBa);have kf6:KeepsFrom W5.heap.size W W6:=R6.trans (dV hBa);have OX:=hid (fun X (hX:Below W6.heap.size W6 X)=>VF L (Tm.part t m) aL (some ⟨bt,ot+m,none⟩) Qd (ct - m) X
     ((((g3.mono hbW.size).below hBa).mono hBa.size |>.below hX).mono hX.size)
     (by have hb:=hb6.trans (hX.mono hb6.size);exact ((HT.out.sub m _).below hb).mono hb.size)
     ⟨g5,g6,si g3 pL⟩ ⟨by rw [hpl];omega,by omega,fun e=>by cases e⟩)
    rw [hpl,Tm.ru eL hpe] at OX;have Xw:=hid (fun X (hX:Below W6.heap.size W6 X) ss (sa:Option Addr) sc (hS:gu X.heap.size X sa ss)=>Ik ss t R (m:Int) sa (some ⟨bt,ot,none⟩) aR sc ct cR X hS
     (by have hb:=hb6.trans (hX.mono hb6.size);exact (HT.out.below hb).mono hb.size)
     ((((g4.mono hbW.size).below hBa).mono hBa.size |>.below hX).mono hX.size) h1 h2)
    have q1:(m:Int)≤(Tm.ai t m:Int):=by omega
    have q2:(Tm.ai t m:Int)≤(ct:Int):=by omega
    have q3:¬ ct - m = 0:=by omega
    have q4:(0:Int)≤(m:Int):=by omega
    have q5:¬ ct = m:=by omega
    rw [← hbv] at OX;have hBd:Below W6.heap.size W6 W6.drew:=below_drewN (Below.refl _ W6) 1;have Hf:=hid (CallsIn.inRound l (jv (n:=0) (OX.out W6.drew hBd)));have HW6:=hid hW6;have mixed:Tryz.prog.follows .mixedOrders = true:=by kernel_rfl
    clear hW6 hblk OX g3 g4 g5 g6 g7 g8 eL eR hpe hpl hbW hbv;generalize Tm.rF rs t m k = qb at *;generalize Tm.lJ L (Tm.part t m) = ss at *;gi_wp2_with fail
    rw [HW6.out];refine wpIn_mono (Q:=fun e a' W'=>e = .normal∧∃ sa sc,a' = { tmps:=#[.slice (some ⟨b,off,none⟩) rs.length cl,.slice (some ⟨bt,ot,none⟩) t.length ct,.pointer (some ⟨w.heap.size,0,none⟩),.pointer (some ⟨w.heap.size+1,0,none⟩),.pointer (some ⟨w.heap.size+1+1,0,none⟩),.pointer (some ⟨w.heap.size+1+1+1,0,none⟩),.int .i64 0,.int .i64 0,.pointer (some ⟨w2.heap.size,0,none⟩),.int .i64 (m:Int),.int .i64 (Tm.ai t m:Int),.int .i64 (k:Int),.pointer (some ⟨wr.heap.size,0,none⟩),.slice sa ss.length sc,.bool qb,.int .i64 0,u16,u17,.slice (some ⟨b,off,none⟩) rs.length cl,.int .i64 0,.int .i64 0,.bool false,undef,.slice (some ⟨bt,ot,none⟩) t.length ct,.int .i64 0,.int .i64 0,.bool false,undef,.slice (some ⟨bt,ot,none⟩) t.length ct,.func (.func 70) #[] #[.pointer (some ⟨w2.heap.size+1,0,none⟩)],.int .i64 (m:Int),.int .i64 (Tm.ai t m:Int),.slice (some ⟨b,off,none⟩) rs.length cl,.int .i64 (rs.length:Int),.int .i64 (k:Int),.bool true,.int .i64 (k:Int),.pointer (some ⟨b,off+k * 2,none⟩),.agg #[.slice aL L.length Qd,.slice aR R.length cR],.tuple #[.slice sa ss.length sc,.bool qb,.int .i64 0],.pointer (some ⟨wr.heap.size,0,none⟩),.slice aL L.length Qd,.slice (some ⟨bt,ot,none⟩) t.length ct,.int .i64 (m:Int),.int .i64 (Tm.ai t m:Int),.slice (some ⟨bt,ot+m,none⟩) (Tm.ai t m - m) (ct - m),.tuple #[.slice sa ss.length sc,.bool qb,.int .i64 0],.slice sa ss.length sc,.bool qb,.int .i64 0,u50,u51,u52,u53,u54,u55,u56,u57,u58,u59,u60,u61,u62,u63,u64,u65,u66,u67,u68,u69,u70,u71,undef],defers:=[] }∧dG W6.drew.heap.size W' (.slice sa ss.length sc) ss∧Below W6.drew.heap.size W6.drew W') ?reg ?cont
    case reg =>
     refine nA hro (by kernel_rfl) mixed ?_;show wpAnyIn F _ _ _ _ _ 14 (Array.replicate 14 false) _ _;refine wpAnyIn_take (i:=0) (v:=.pointer (some ⟨wr.heap.size,0,none⟩)) hro rfl (by kernel_rfl) (by kernel_rfl) (by kernel_rfl) (fun _ _ _ h=>absurd h.1 (by simp)) ⟨Or.inl ⟨by rfl,fun w=>by go_simp⟩,fun _=>rfl⟩ ?_;refine wpAnyIn_take (i:=3) (v:=.int .i64 (m:Int)) hro rfl (by kernel_rfl) (by kernel_rfl) (by kernel_rfl) (fun _ _ _ h=>absurd h.1 (by simp)) ⟨Or.inl ⟨by rfl,fun w=>by go_simp⟩,fun _=>rfl⟩ ?_;refine wpAnyIn_take (i:=4) (v:=.int .i64 (Tm.ai t m:Int)) hro rfl (by kernel_rfl) (by kernel_rfl) (by kernel_rfl) (fun _ _ _ h=>absurd h.1 (by simp)) ⟨Or.inl ⟨by rfl,fun w=>by go_simp⟩,fun _=>rfl⟩ ?_;refine wpAnyIn_ready (rs:=[1,2]) (by kernel_rfl) (by simp) ?_;refine AllReadyIn.cons rfl (fun K hK=>?_) (AllReadyIn.cons rfl (fun K hK=>?_) AllReadyIn.nil)
     ·go_simp
      refine hK _ _ ?_;clear hK K;refine wpAnyIn_ready (rs:=[2]) (by kernel_rfl) (by simp) ?_;refine AllReadyIn.cons rfl (fun K hK=>?_) AllReadyIn.nil;go_simp;refine hK _ _ ?_;clear hK K;refine wpAnyIn_take (i:=5) (v:=.slice (some ⟨bt,ot+m,none⟩) (Tm.ai t m - m) (ct - m)) hro rfl (by kernel_rfl) (by kernel_rfl) (by kernel_rfl) (fun _ _ _ h=>absurd h.1 (by simp)) ⟨Or.inl ⟨by rfl,fun w=>by go_simp⟩,fun _=>rfl⟩ ?_;refine wpAnyIn_ready (rs:=[6]) (by kernel_rfl) (by simp) ?_;refine AllReadyIn.cons rfl (fun K hK=>?_) AllReadyIn.nil;go_simp;gi_wp2_with (first | ((try refine ⟨hdd _,?_⟩);gi_at_call 51;refine Hf.out.mono ?_;rintro e W1 ⟨v,rfl,hN1,Iu⟩;obtain ⟨sa,sc,rfl,_⟩:=hN1.subs))
      refine wpAnyIn_take (i:=7) (v:=.tuple #[.slice sa ss.length sc,.bool qb,.int .i64 0]) hro rfl (by kernel_rfl) (by kernel_rfl) (by kernel_rfl) (fun _ _ _ h=>absurd h.1 (by simp)) ⟨Or.inl ⟨by rfl,fun w=>by go_simp⟩,fun _=>rfl⟩ ?_;refine wpAnyIn_take (i:=8) (v:=.slice sa ss.length sc) hro rfl (by kernel_rfl) (by kernel_rfl) (by kernel_rfl) (fun _ _ _ h=>absurd h.1 (by simp)) ⟨Or.inl ⟨by rfl,fun w=>by go_simp⟩,fun _=>rfl⟩ ?_;refine wpAnyIn_take (i:=9) (v:=.bool qb) hro rfl (by kernel_rfl) (by kernel_rfl) (by kernel_rfl) (fun _ _ _ h=>absurd h.1 (by simp)) ⟨Or.inl ⟨by rfl,fun w=>by go_simp⟩,fun _=>rfl⟩ ?_;refine wpAnyIn_take (i:=10) (v:=.int .i64 0) hro rfl (by kernel_rfl) (by kernel_rfl) (by kernel_rfl) (fun _ _ _ h=>absurd h.1 (by simp)) ⟨Or.inl ⟨by rfl,fun w=>by go_simp⟩,fun _=>rfl⟩ ?_;refine wpAnyIn_take (i:=11) (v:=.slice sa ss.length sc) hro rfl (by kernel_rfl) (by kernel_rfl) (by kernel_rfl) (fun _ _ _ h=>absurd h.1 (by simp)) ⟨Or.inl ⟨by rfl,fun w=>by go_simp⟩,fun _=>rfl⟩ ?_;refine wpAnyIn_take (i:=12) (v:=.bool qb) hro rfl (by kernel_rfl) (by kernel_rfl) (by kernel_rfl) (fun _ _ _ h=>absurd h.1 (by simp)) ⟨Or.inl ⟨by rfl,fun w=>by go_simp⟩,fun _=>rfl⟩ ?_;refine wpAnyIn_ready (rs:=[13]) (by kernel_rfl) (by simp) ?_;refine AllReadyIn.cons rfl (fun K hK=>?_) AllReadyIn.nil;go_simp;refine hK _ _ ?_;clear hK K;refine wpAnyIn_done (by kernel_rfl) ?_ _;exact ⟨rfl,sa,sc,rfl,hN1,Iu⟩
     ·go_simp
      refine hK _ _ ?_;clear hK K;refine wpAnyIn_take (i:=5) (v:=.slice (some ⟨bt,ot+m,none⟩) (Tm.ai t m - m) (ct - m)) hro rfl (by kernel_rfl) (by kernel_rfl) (by kernel_rfl) (fun _ _ _ h=>absurd h.1 (by simp)) ⟨Or.inl ⟨by rfl,fun w=>by go_simp⟩,fun _=>rfl⟩ ?_;refine wpAnyIn_ready (rs:=[1]) (by kernel_rfl) (by simp) ?_;refine AllReadyIn.cons rfl (fun K hK=>?_) AllReadyIn.nil;go_simp;refine hK _ _ ?_;clear hK K;refine wpAnyIn_ready (rs:=[6]) (by kernel_rfl) (by simp) ?_;refine AllReadyIn.cons rfl (fun K hK=>?_) AllReadyIn.nil;go_simp;gi_wp2_with (first | ((try refine ⟨hdd _,?_⟩);gi_at_call 51;refine Hf.out.mono ?_;rintro e W1 ⟨v,rfl,hN1,Iu⟩;obtain ⟨sa,sc,rfl,_⟩:=hN1.subs))
      refine wpAnyIn_take (i:=7) (v:=.tuple #[.slice sa ss.length sc,.bool qb,.int .i64 0]) hro rfl (by kernel_rfl) (by kernel_rfl) (by kernel_rfl) (fun _ _ _ h=>absurd h.1 (by simp)) ⟨Or.inl ⟨by rfl,fun w=>by go_simp⟩,fun _=>rfl⟩ ?_;refine wpAnyIn_take (i:=8) (v:=.slice sa ss.length sc) hro rfl (by kernel_rfl) (by kernel_rfl) (by kernel_rfl) (fun _ _ _ h=>absurd h.1 (by simp)) ⟨Or.inl ⟨by rfl,fun w=>by go_simp⟩,fun _=>rfl⟩ ?_;refine wpAnyIn_take (i:=9) (v:=.bool qb) hro rfl (by kernel_rfl) (by kernel_rfl) (by kernel_rfl) (fun _ _ _ h=>absurd h.1 (by simp)) ⟨Or.inl ⟨by rfl,fun w=>by go_simp⟩,fun _=>rfl⟩ ?_;refine wpAnyIn_take (i:=10) (v:=.int .i64 0) hro rfl (by kernel_rfl) (by kernel_rfl) (by kernel_rfl) (fun _ _ _ h=>absurd h.1 (by simp)) ⟨Or.inl ⟨by rfl,fun w=>by go_simp⟩,fun _=>rfl⟩ ?_;refine wpAnyIn_take (i:=11) (v:=.slice sa ss.length sc) hro rfl (by kernel_rfl) (by kernel_rfl) (by kernel_rfl) (fun _ _ _ h=>absurd h.1 (by simp)) ⟨Or.inl ⟨by rfl,fun w=>by go_simp⟩,fun _=>rfl⟩ ?_;refine wpAnyIn_take (i:=12) (v:=.bool qb) hro rfl (by kernel_rfl) (by kernel_rfl) (by kernel_rfl) (fun _ _ _ h=>absurd h.1 (by simp)) ⟨Or.inl ⟨by rfl,fun w=>by go_simp⟩,fun _=>rfl⟩ ?_;refine wpAnyIn_ready (rs:=[13]) (by kernel_rfl) (by simp) ?_;refine AllReadyIn.cons rfl (fun K hK=>?_) AllReadyIn.nil;go_simp;refine hK _ _ ?_;clear hK K;refine wpAnyIn_done (by kernel_rfl) ?_ _;exact ⟨rfl,sa,sc,rfl,hN1,Iu⟩
    case cont =>
     rintro e a' W7 ⟨rfl,sa,sc,rfl,hN7,JV⟩;have Md:Below W6.heap.size W6 W7:=hBd.trans (JV.mono hBd.size);have akT:W6.heap.size≤W7.heap.size:=Md.size;have hwr:w2.heap.size≤wr.heap.size:=hinv.out.kp.size;have Tc:=ab1.out.below (Nat.le_refl _) Md;have kf7:KeepsFrom W5.heap.size W W7:=kf6.trans (dV Md);cases qb with
     | false =>
      gi_wp2
      go_roundw
      case rel=>exact ⟨k+1,by omega,by go_num,hid (hno.out rfl),hid (by rw [hLn.out rfl];exact Tc),kf7⟩
      case measure=>simp [intOf];omega
     | true =>
      obtain ⟨_,_,esa,hS7,_⟩:=hN7.subs;cases esa;have cT7:=(Md.cell (p:=⟨w.heap.size+1,0,none⟩) (by show w.heap.size+1 < _;omega)).trans cT6;have d17:=(Md.cell (p:=⟨wr.heap.size,1,none⟩) (by show wr.heap.size < _;omega)).trans d1;have Hrep:=hid (CallsIn.inRound l (jv (n:=0) (Xw.out W7 Md ss sa sc hS7)));rw [← hev,← hvv] at Hrep;clear Xw hN7 hS7 hev hvv;have b07:Boxed W7 (w.heap.size+1+1) 43 (.slice none 0 0):=(Tc.kp.block _ (by omega)).trans b02;have b17:Boxed W7 (w.heap.size+1+1+1) 25 (.int .i64 0):=(Tc.kp.block _ (by omega)).trans b12;have hb7:=hb6.trans (Md.mono hb6.size);have hle:=hid (show (Tm.jO rs t m++Tm.lK rs t m k).length≤1000000 by
       have h1:=Tm.Im rs t m;have h2:=Tm.Il rs t m k;have h3:m * rs.length≤30 * 8:=Nat.mul_le_mul (by omega) h8;rw [List.length_append];omega)
      have Hi7:=hid Tc;clear Tc ab1 hinv R6 kf6;by_cases he:Tm.je rs t m k = 0
      ·have Hy:=hid (hye.out rfl he)
       obtain ⟨acc,hacc⟩:∃ acc,Tm.jO rs t m++Tm.lK rs t m k = acc:=⟨_,rfl⟩;rw [hacc] at Hi7 hle;have Qe:=hid hacc;clear hacc;rw [he] at Hrep;have Hl:=hid (Vd.out rfl);clear he hstop hye hno hLn Vd;generalize Tm.oU rs t m k = u at *;gi_wp2_with (first
        | ((try refine ⟨hdd _,?_⟩);gi_at_call 52;refine Hrep.out.mono ?_;clear Hrep;rintro e W8 ⟨v8,rfl,yD,rJ⟩;obtain ⟨x8,c8,rfl,_⟩:=New.ints yD;have VG:=Hi7.out.below (Nat.le_refl _) rJ;have Rt:=rJ.size;obtain ⟨vo,Sy,yT⟩:=VG.out;obtain ⟨va,vc,rfl⟩:=yT.slice;have cO:=Sy.cell;have hBx:Below W8.heap.size W8 (W8.alloc (.cells #[.int .i64 (k:Int),.int .i64 (m:Int),.slice x8 u.length c8] 53)):=(Below.refl _ W8).alloc (Nat.le_refl _) _;have blk:=World.alloc_heap_new W8 (.cells #[.int .i64 (k:Int),.int .i64 (m:Int),.slice x8 u.length c8] 53);have e0:(W8.alloc (.cells #[.int .i64 (k:Int),.int .i64 (m:Int),.slice x8 u.length c8] 53)).cell? ⟨W8.heap.size,0,none⟩ = some (.int .i64 (k:Int)):=(by rw [aM blk];rfl);have e1:(W8.alloc (.cells #[.int .i64 (k:Int),.int .i64 (m:Int),.slice x8 u.length c8] 53)).cell? ⟨W8.heap.size,1,none⟩ = some (.int .i64 (m:Int)):=(by rw [aM blk];rfl);have e2:(W8.alloc (.cells #[.int .i64 (k:Int),.int .i64 (m:Int),.slice x8 u.length c8] 53)).cell? ⟨W8.heap.size,2,none⟩ = some (.slice x8 u.length c8):=(by rw [aM blk];rfl);clear blk)
        | (gi_at_builtin;(refine CK _ rfl _ _ rfl w2.heap.size _ acc rfl (yT.below hBx) (.slice x8 u.length c8) k m u W8.heap.size rfl e0 e1 e2 (New.below (yD.mono (by omega)) hBx) hle.out (by have:=VG.kp.size;simp;omega) ?_);intro v' w9 SS hg9 El;obtain ⟨g9,c9,rfl⟩:=El;have R9:=Qa (C:=W5.heap.size) (Nat.le_refl _) Sy yT VG.bP VG.kp SS hg9;have cO9:=R9.1.cell;have fO9:=R9.1.frozen))
       go_roundw
       case rel=>exact ⟨k+1,by omega,by go_num,hid Hy.out,hid (by rw [Hl.out,← List.append_assoc,Qe.out];exact R9.2.1),(kf7.trans (dV rJ)).trans R9.2.2⟩
       case measure=>simp [intOf];omega
      ·have hst:=hid (hstop.out rfl he)
       have hne:(Tm.je rs t m k != 0) = true:=by simpa using he
       have He:=hid he;clear he hstop hye hno hLn Vd;generalize Tm.je rs t m k = q at *;gi_wp2_with (first
        | ((try refine ⟨hdd _,?_⟩);gi_at_call 52;refine Hrep.out.mono ?_;clear Hrep;rintro e W8 ⟨v8,rfl,yD,rJ⟩;obtain ⟨x8,c8,rfl,_⟩:=New.ints yD;have Td:Boxed W8 (w.heap.size+1+1) 43 (.slice none 0 0):=(rJ.block _ b07.lt).trans b07;have b18:Boxed W8 (w.heap.size+1+1+1) 25 (.int .i64 0):=(rJ.block _ b17.lt).trans b17;have k0:=Td.cell;have k1:=b18.cell;have f0:=Td.frozen;have f1:=b18.frozen;have Iy:Boxed (W8.setCell ⟨w.heap.size+1+1,0,none⟩ (.slice none 0 0)) (w.heap.size+1+1+1) 25 (.int .i64 0):=(Below.heap_setCell W8 ⟨w.heap.size+1+1,0,none⟩ _ (w.heap.size+1+1+1) (by show w.heap.size+1+1+1≠w.heap.size+1+1;omega)).trans b18;have k1':=Iy.cell;have Ro:=Iy.frozen))
       refine ⟨((kf7.trans (dV rJ)).trans ((KeepsOthers.setCell _ _ _).from _)).trans ((KeepsOthers.setCell _ _ _).from _),rfl,by rw [hst.out];exact He.out,?_,?_,?_⟩
       ·exact (Below.heap_setCell _ ⟨w.heap.size+1+1+1,0,none⟩ _ (w.heap.size+1+1) (by show w.heap.size+1+1≠w.heap.size+1+1+1;omega)).trans (Td.set _)
       ·rw [hst.out];exact Iy.set _
       ·exact ((hb7.trans (rJ.mono hb7.size)).setCell (p:=⟨w.heap.size+1+1,0,none⟩) (by show w.heap.size≤w.heap.size+1+1;omega) _).setCell (p:=⟨w.heap.size+1+1+1,0,none⟩) (by show w.heap.size≤w.heap.size+1+1+1;omega) _
   ·obtain rfl:k = rs.length:=by omega
    gi_wp2
    exact ⟨R6,⟨Tm.Gg Hno.out hrow.out,hinv.out⟩⟩
 case done =>
  rintro D W hD ⟨no,inv⟩ qA;obtain ⟨v,hv,hN⟩:=inv.out;obtain ⟨va,vc,rfl⟩:=hN.slice;have cO:=hv.cell;have VA:Boxed W (w.heap.size+1+1) 43 (.slice none 0 0):=(inv.kp.block _ (by omega)).trans b02;have Yv:Boxed W (w.heap.size+1+1+1) 25 (.int .i64 0):=(inv.kp.block _ (by omega)).trans b12;have k0:=VA.cell;have k1:=Yv.cell;have f0:=VA.frozen;have f1:=Yv.frozen;have b0X:=VA.set (.slice va (Tm.jO rs t t.length).length vc);have VB:Boxed (W.setCell ⟨w.heap.size+1+1,0,none⟩ (.slice va (Tm.jO rs t t.length).length vc)) (w.heap.size+1+1+1) 25 (.int .i64 0):=(Below.heap_setCell W ⟨w.heap.size+1+1,0,none⟩ _ (w.heap.size+1+1+1) (by show w.heap.size+1+1+1≠w.heap.size+1+1;omega)).trans Yv;have k1X:=VB.cell;have f1X:=VB.frozen;rw [hs5] at hD;have hv':=hv;have HN:=hid hN;have Rm:=hid inv.kp;have Hno:=hid no;clear hN inv no;generalize (Tm.jO rs t t.length).length = ln at *;gi_wp2
  have qB:((W.setCell ⟨w.heap.size+1+1,0,none⟩ (.slice va ln vc)).setCell ⟨w.heap.size+1+1+1,0,none⟩ (.int .i64 0)).heap[D]? = some (.deferred (some [])) :=
   (Below.heap_setCell _ ⟨w.heap.size+1+1+1,0,none⟩ _ D (show D≠w.heap.size+1+1+1 by omega)).trans ((Below.heap_setCell W ⟨w.heap.size+1+1,0,none⟩ _ D (show D≠w.heap.size+1+1 by omega)).trans qA)
  have b0Y:Boxed ((W.setCell ⟨w.heap.size+1+1,0,none⟩ (.slice va ln vc)).setCell ⟨w.heap.size+1+1+1,0,none⟩ (.int .i64 0)) (w.heap.size+1+1) 43 (.slice va ln vc) :=
   (Below.heap_setCell _ ⟨w.heap.size+1+1+1,0,none⟩ _ (w.heap.size+1+1) (by show w.heap.size+1+1≠w.heap.size+1+1+1;omega)).trans b0X
  have b1Y:=VB.set (.int .i64 0);refine ⟨by simp,.inl ⟨_,_,rfl,run_takeDeferred qB,?_⟩⟩;refine ⟨_,oV rfl rfl rfl ((World.cell?_of_block (a:=⟨w.heap.size+1+1,0,none⟩) (World.putObj_heap_other (show w.heap.size+1+1≠D by omega))).trans b0Y.cell) ((World.cell?_of_block (a:=⟨w.heap.size+1+1+1,0,none⟩) (World.putObj_heap_other (show w.heap.size+1+1+1≠D by omega))).trans b1Y.cell),?_⟩;refine ⟨_,by rw [VE.out,Hno.out],?_,?_⟩
  ·have h1:=((HN.out.set VA (by decide) (by decide) (.slice va ln vc)).set VB (by decide) (by decide) (.int .i64 0)).other (grownBy_putObj' _ D (.deferred none)) (fun r e=>by cases e;exact ⟨_,qB,rfl⟩)
   rw [show Tm.bD rs t = Tm.jO rs t t.length by unfold Tm.bD;rw [VE.out,if_pos Hno.out]];exact h1.mono (by omega)
  ·have h0:=hBw2.trans (Rm.out.mono (by omega))
   have h1:=(h0.setCell (p:=⟨w.heap.size+1+1,0,none⟩) (by show w.heap.size≤w.heap.size+1+1;omega) (.slice va ln vc)).setCell (p:=⟨w.heap.size+1+1+1,0,none⟩) (by show w.heap.size≤w.heap.size+1+1+1;omega) (.int .i64 0);exact ⟨h1.os,h1.tape,h1.output,by have:=h1.size;simpa using this,fun k hk=>(World.putObj_heap_other (by omega)).trans (h1.block k hk)⟩
 case stop =>
  rintro D c W hD ⟨rfl,hbad,c0,c1,kp⟩ qA;rw [hs5] at hD;have k0:=c0.cell;have k1:=c1.cell;gi_wp2
  refine ⟨by simp,.inl ⟨_,_,rfl,run_takeDeferred qA,?_⟩⟩;refine ⟨_,oV rfl rfl rfl ((World.cell?_of_block (a:=⟨w.heap.size+1+1,0,none⟩) (World.putObj_heap_other (show w.heap.size+1+1≠D by omega))).trans k0) ((World.cell?_of_block (a:=⟨w.heap.size+1+1+1,0,none⟩) (World.putObj_heap_other (show w.heap.size+1+1+1≠D by omega))).trans k1),?_⟩;refine ⟨_,by rw [VE.out],?_,⟨kp.os,kp.tape,kp.output,by have:=kp.size;simpa using this,fun k hk=>(World.putObj_heap_other (by omega)).trans (kp.block k hk)⟩⟩;rw [show Tm.bD rs t = [] by unfold Tm.bD;rw [VE.out,if_neg hbad]];exact fI.nil _ _
 case panic=>exact fun _ _ _ _ h=>h.elim
end
end Go.Proofs.YtglohanbpjaieaaGreat
