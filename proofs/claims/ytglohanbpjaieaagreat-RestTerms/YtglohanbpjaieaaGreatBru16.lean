/-
  Parts of the proof: Prs5, Rng7, Prs6, Prs7, Prs8.
-/
import Derived.Test.YtglohanbpjaieaaGreatBru15
set_option maxHeartbeats 4000000
set_option maxRecDepth 100000
namespace Go.Proofs.YtglohanbpjaieaaGreat
open Go.Proofs Go.RowKit Go.Shelf Go.Maps
def Tm.jd (L:List Int) (i j:Int) (m:Nat):Bool:=decide (L[m]?.getD 0 < 0) || (decide (m = 0) && decide (i = j))
theorem SL (L:List Int) (aL:Option Addr) (cL:Nat) (i j:Int) (m:Nat) (B9 B4 B5:Nat) (w:World) (hm:m < L.length) (hI:Ints w.heap.size w aL L) (h9:w.cell? ⟨B9,0,none⟩ = some (.slice aL L.length cL)) (h4:w.cell? ⟨B4,0,none⟩ = some (.int .i64 i)) (h5:w.cell? ⟨B5,0,none⟩ = some (.int .i64 j)) :
 Calls Tryz.prog 77 #[.int .i64 (m:Int),.pointer (some ⟨B9,0,none⟩),.pointer (some ⟨B4,0,none⟩),.pointer (some ⟨B5,0,none⟩)] w fun e w'=>e = .returned (.bool (Tm.jd L i j m))∧w' = w:=by
 obtain ⟨b,off,rfl,hb,hc⟩:=hI.at (by omega);have hck:=hc m hm;have hm':(m:Int) < (L.length:Int):=by omega
 have hq:Hid (Tm.jd L i j m = (decide (L[m]?.getD 0 < 0) || (decide (m = 0) && decide (i = j)))):=rfl;clear hc hI;generalize L[m]?.getD 0 = s at *;by_cases hs:s < 0
 ·go_enter Tryz.func77,Tryz.ntmps77
  go_wp2;go_ret;exact ⟨by rw [hq.out];simp [hs],rfl⟩
 ·have hs':decide (s < 0) = false:=by simpa using hs
  by_cases h0:m = 0
  ·subst h0
   rw [Nat.add_zero] at hck;have hm0:(0:Int) < (L.length:Int):=by omega
   by_cases hij:i = j
   ·subst hij
    go_enter Tryz.func77,Tryz.ntmps77;go_wp2;go_ret;exact ⟨by rw [hq.out];simp [hs'],rfl⟩
   ·have hij':(i == j) = false:=by simpa using hij
    go_enter Tryz.func77,Tryz.ntmps77;go_wp2;go_ret;exact ⟨by rw [hq.out];simp [hs',hij],rfl⟩
  ·have h0':((m:Int) == 0) = false:=by simpa using h0
   go_enter Tryz.func77,Tryz.ntmps77;go_wp2;go_ret;exact ⟨by rw [hq.out];simp [hs',h0],rfl⟩
theorem zm {fn:Func} {tmps:Array Value} {w:World} {a b B C:Nat} {ad:Option Addr} {n c:Nat} {x:Int} (h:fn.results = #[.cell a 24,.cell b 25]) (ha:tmps.getD a undef = .pointer (some ⟨B,0,none⟩)) (hb:tmps.getD b undef = .pointer (some ⟨C,0,none⟩))
 (hc:w.cell? ⟨B,0,none⟩ = some (.slice ad n c)) (hd:w.cell? ⟨C,0,none⟩ = some (.int .i64 x)):(results fn tmps).run Tryz.prog w = .ok (.tuple #[.slice ad n c,.int .i64 x]) w:=by
 have ha':tmps[a]?.getD undef = .pointer (some ⟨B,0,none⟩):=by rw [← ha];simp
 have hb':tmps[b]?.getD undef = .pointer (some ⟨C,0,none⟩):=by rw [← hb];simp
 simp only [results,h];simp [go_sem,ha',hb',hc,hd]
structure Io (w2:World) (B:Nat) (tv:Value) (l:ah) (W:World):Prop where
 out:∃ v,Boxed W B 24 v∧fO B W v l
 bP:Boxed W (B+1) 35 tv
 kp:Below B w2 W
theorem Io.own {w2 X Y:World} {B D:Nat} {tv:Value} {l:ah} {row:Option Nat} (hB:B≤w2.heap.size) (hD:B≤D) (h:Io w2 B tv l X) (hg:X.grownBy Y row) (hr:∀ r,row = some r→D≤r∧∃ o:Obj,X.heap[r]? = some o∧o.isCells = false):Io w2 B tv l Y:=by
 obtain ⟨⟨v,hv,hN⟩,bP,kp⟩:=h;exact ⟨⟨v,dm hv hg hr,hN.other hg (fun r e=>(hr r e).2)⟩,dm bP hg hr,⟨hg.os.trans kp.os,hg.tape.trans kp.tape,hg.output.trans kp.output,Nat.le_trans kp.size hg.size,fun k hk=>(hg.block k (by have:=kp.size;omega) (fun e=>by have:=(hr k e.symm).1;omega)).trans (kp.block k hk)⟩⟩
theorem Io.below {w2 W W':World} {B:Nat} {tv:Value} {l:ah} (hB:B≤w2.heap.size) (h:Io w2 B tv l W) (hb:Below W.heap.size W W'):Io w2 B tv l W':=by
 obtain ⟨⟨v,hv,hN⟩,bP,kp⟩:=h;exact ⟨⟨v,(hb.block _ hv.lt).trans hv,hN.below hb⟩,(hb.block _ bP.lt).trans bP,kp.trans (hb.mono (Nat.le_trans hB kp.size))⟩
theorem SN {w2 W w':World} {B C:Nat} {tv v v':Value} {l:ah} {x:List Int × List Int} {tmp:Obj} (hB:B≤w2.heap.size) (hv:Boxed W B 24 v) (hN:fO B W v l) (bP:Boxed W (B+1) 35 tv) (kp:Below B w2 W) (hN':fO B w' v' (l++[x])) (hg:(W.alloc tmp).grownBy w' v.ownBlock) :
 Boxed w' B 24 v∧Io w2 B tv (l++[x]) (w'.setCell ⟨B,0,none⟩ v')∧KeepsFrom C W (w'.setCell ⟨B,0,none⟩ v'):=by
 have hBW:B≤W.heap.size:=Nat.le_trans hB kp.size;have hne:∀ {D:Nat} {e:TypeId} {y:Value},Boxed W D e y→e≠40→some D≠v.ownBlock:=fun hb he e'=>by
  obtain ⟨_,cs,p,h⟩:=hN.block e'.symm;exact nZ hb he cs p h
 have hv1:Boxed w' B 24 v:=(hv.alloc tmp).kept hg (hne hv (by decide));have bP1:Boxed w' (B+1) 35 tv:=(bP.alloc tmp).kept hg (hne bP (by decide));refine ⟨hv1,⟨⟨v',hv1.set v',hN'.set hv1 (by decide) (by decide) v'⟩,(Below.heap_setCell w' ⟨B,0,none⟩ v' (B+1) (by show B+1≠B;omega)).trans bP1,kp.trans ?_⟩,?_⟩
 ·refine (((Below.refl B W).alloc hBW tmp).grown hg (by simp;omega) fun j ej=>(hN.block ej).1).setCell (p:=⟨B,0,none⟩) (Nat.le_refl _) v'
 ·refine KeepsOthers.from (((KeepsOthers.alloc W tmp).trans (KeepsOthers.of_grownBy hg fun j o ej hj=>?_)).trans (KeepsOthers.setCell _ _ _)) C
  obtain ⟨_,cs,p,h⟩:=hN.block ej;have h2:(W.alloc tmp).heap[j]? = some (.cells cs 40 p):=(Below.heap_alloc W tmp j (Array.getElem?_eq_some_iff.1 h).1).trans h;rw [h2] at hj;cases hj;rfl
inductive Tm.jP (L1 R1 L2 R2:List Int) (pass:Nat→Bool):Nat→ah→Prop
 | zero:Tm.jP L1 R1 L2 R2 pass 0 []
 | pass {m:Nat} {l:ah}:Tm.jP L1 R1 L2 R2 pass m l→pass m = true→Tm.jP L1 R1 L2 R2 pass (m+1) l
 | no {m:Nat} {l:ah} {val:List (List Int)}:Tm.jP L1 R1 L2 R2 pass m l→pass m = false→Tm.dQ [(Tm.part L1 m,L2)] 0 false val→Tm.jP L1 R1 L2 R2 pass (m+1) l
 | yes {m:Nat} {l:ah} {val:List (List Int)}:Tm.jP L1 R1 L2 R2 pass m l→pass m = false→Tm.dQ [(Tm.part L1 m,L2)] 0 true val→Tm.fD val L1 R1 (m:Int) R2 = 0→Tm.jP L1 R1 L2 R2 pass (m+1) (l++[Tm.gm val L1 R1 (m:Int) R2])
theorem Tm.jP.len {L1 R1 L2 R2:List Int} {pass:Nat→Bool} {m:Nat} {l:ah} (h:Tm.jP L1 R1 L2 R2 pass m l):l.length≤m:=by
 induction h with
 | zero=>exact Nat.le_refl _
 | pass _ _ ih=>omega
 | no _ _ _ ih=>omega
 | yes _ _ _ _ ih=>rw [List.length_append];simp;omega
def Tm.zn (L1 R1 L2 R2:List Int) (pass:Nat→Bool) (e:Int):Prop:=e≠0∧∃ m l,m < L1.length∧Tm.jP L1 R1 L2 R2 pass m l∧pass m = false∧((∃ is val,Tm.dQ [(Tm.part L1 m,L2)] e is val)∨(∃ val,Tm.dQ [(Tm.part L1 m,L2)] 0 true val∧Tm.fD val L1 R1 (m:Int) R2 = e))
def Tm.iO (L1 R1 L2 R2:List Int) (pass:Nat→Bool) (e:Int) (ps:ah):Prop:=(e = 0∧Tm.jP L1 R1 L2 R2 pass L1.length ps)∨(Tm.zn L1 R1 L2 R2 pass e∧ps = [])
end Go.Proofs.YtglohanbpjaieaaGreat
namespace Go.Proofs.YtglohanbpjaieaaGreat
open Go.Proofs Go.RowKit Go.Shelf
theorem L8 {F:Fence} {n l:Nat} {P:Program} {o:Oper} {a:Act} {next next':Act→World→Prop} {Q:Exit→Act→World→Prop} (hm:∀ a w,next a w→next' a w) (r:Result Next) (h:o.uponIn F n P a next Q r):o.uponIn (F.inRound l) n P a next' Q r:=by
 cases r with
 | ok x w' =>
  cases x with
  | value v=>exact hm _ _ h
  | skip=>exact hm _ _ h
  | defer d=>exact hm _ _ h
  | enter f args =>
   refine ⟨h.1,(CallsIn.inRound l h.2).mono fun e w'' he=>?_⟩;cases e with
   | returned v=>exact hm _ _ he
   | panicked c=>exact he
   | outgrown=>exact he
  | row row args=>exact ⟨h.1,RowsIn.mono (show RowsIn (F.inRound l) (n - 1) P row args w' _ from h.2) fun v w'' he=>hm _ _ he⟩
  | round l' f tmps assign body =>
   refine ⟨h.1,RoundIn.mono (show RoundIn (F.inRound l) (n - 1) P l' f tmps assign body w' _ from h.2) fun e w'' he=>?_⟩;cases e with
   | returned v=>exact hm _ _ he
   | panicked c=>exact he
   | outgrown=>exact he
  | _=>exact h
 | halt x w'=>cases x <;> exact h
theorem Qb {F:Fence} {n l:Nat} {P:Program} {ops:Array Oper} {Q:Exit→Act→World→Prop} (hro:F.round = none) (hnd:∀ (j:Nat) (o:Oper) (c:Call),ops[j]? = some o→o.op≠.defer c) :
 ∀ (order:List Nat) (a:Act) (w:World),wpOpsIn F n P ops Q order a w→wpOpsIn (F.inRound l) n P ops Q order a w:=by
 intro order;induction order with
 | nil=>exact fun _ _ h=>h
 | cons i rest ih =>
  intro a w h;unfold wpOpsIn at h ⊢;cases ho:ops[i]? with
  | none=>rw [ho] at h;exact ih a w h
  | some o =>
   rw [ho] at h;by_cases hw:Region.wanted o (yielded ops a.tmps) = true
   ·simp only [hw,if_true] at h ⊢
    refine ⟨h.1,?_⟩;have h2:=h.2;rw [hro,Oper.semAt_none] at h2;rw [show (F.inRound l).round = some l from rfl,Oper.semAt_some l _ _ (fun c=>hnd i o c ho)];exact L8 ih _ h2
   ·simp only [hw] at h ⊢
    exact ⟨h.1,ih _ _ h.2⟩
def Iq (ops:Array Oper):Bool:=ops.all fun o=>match o.op with | .defer _=>false | _=>true
theorem Ir {ops:Array Oper} (h:Iq ops = true):∀ (j:Nat) (o:Oper) (c:Call),ops[j]? = some o→o.op≠.defer c:=by
 intro j o c hj e;unfold Iq at h;rw [Array.all_eq_true] at h;obtain ⟨hlt,hx⟩:=Array.getElem?_eq_some_iff.1 hj;have:=h j hlt
 rw [hx,e] at this;simp at this
theorem nA {F:Fence} {n l id:Nat} {P:Program} {ops:Array Oper} {Q:Exit→Act→World→Prop} {a:Act} {w:World} (hro:F.round = none) (hnd:Iq ops = true) (hm:P.follows .mixedOrders = true)
 (h:wpAnyIn F n P .any ops Q ops.size (Array.replicate ops.size false) a w.drew):(Code.region id ops true).wpIn (F.inRound l) n P Q a w :=
 wpIn_region_draw fun t=>by
  simp only [Region.schedule,hm,Bool.true_or,if_true];exact Qb hro (Ir hnd) _ _ _ (wpAnyIn_sound ops.size t _ a _ h)
end Go.Proofs.YtglohanbpjaieaaGreat
namespace Go.Proofs.YtglohanbpjaieaaGreat
open Go.Proofs Go.RowKit Go.Shelf Go.Maps
section
attribute [local go_sem] Oper.semAt_some
attribute [local go_sem ↓] Go.wp_at_zero Go.wp_at_succ
structure abR (L1 R1 L2 R2:List Int) (pass:Nat→Bool) (w2:World) (B:Nat) (tv:Value) (m:Nat) (W:World):Prop where
 inv:∃ l,Tm.jP L1 R1 L2 R2 pass m l∧Io w2 B tv l W
structure abS (L1 R1 L2 R2:List Int) (pass:Nat→Bool) (w:World) (n:Nat) (c:Code) (W:World):Prop where
 ret:c = .ret
 kp:Below n w W
 bad:∃ er,Tm.zn L1 R1 L2 R2 pass er∧Boxed W (n+1+1+1) 24 (.slice none 0 0)∧Boxed W (n+1+1+1+1) 25 (.int .i64 er)
theorem L9 (w W5:World) (x0 x1 y0 y1 f:Value) (mG:((((w.alloc (.cells #[x0,x1] 54)).alloc (.cells #[y0,y1] 54)).alloc (.cells #[f] 98)).alloc (.cells #[.slice none 0 0] 24)).alloc (.cells #[.int .i64 0] 25) = W5) :
 Below w.heap.size w W5∧bZ W5 w.heap.size 54 x0 x1∧bZ W5 (w.heap.size+1) 54 y0 y1∧Boxed W5 (w.heap.size+1+1) 98 f∧Boxed W5 (w.heap.size+1+1+1) 24 (.slice none 0 0)∧Boxed W5 (w.heap.size+1+1+1+1) 25 (.int .i64 0)∧W5.heap.size = w.heap.size+1+1+1+1+1:=by
 subst mG;refine ⟨(((((Below.refl _ w).alloc (Nat.le_refl _) _).alloc (by simp) _).alloc (by simp;omega) _).alloc (by simp;omega) _).alloc (by simp;omega) _,((((bZ.new w _ _ _).alloc _).alloc _).alloc _).alloc _,?_,?_,?_,?_,by simp⟩
 ·have h:=bZ.new (w.alloc (.cells #[x0,x1] 54)) 54 y0 y1
  rw [World.size_alloc] at h;exact ((h.alloc _).alloc _).alloc _
 ·have h:=Boxed.new ((w.alloc (.cells #[x0,x1] 54)).alloc (.cells #[y0,y1] 54)) 98 f
  simp only [World.size_alloc] at h;exact (h.alloc _).alloc _
 ·have h:=Boxed.new (((w.alloc (.cells #[x0,x1] 54)).alloc (.cells #[y0,y1] 54)).alloc (.cells #[f] 98)) 24 (.slice none 0 0)
  simp only [World.size_alloc] at h;exact h.alloc _
 ·have h:=Boxed.new ((((w.alloc (.cells #[x0,x1] 54)).alloc (.cells #[y0,y1] 54)).alloc (.cells #[f] 98)).alloc (.cells #[.slice none 0 0] 24)) 25 (.int .i64 0)
  simpa only [World.size_alloc] using h
theorem SQ (L1 R1 L2 R2:List Int) (a1 b1 a2 b2:Option Addr) (c1 d1 c2 d2:Nat) (i j:Int) (B9 B4 B5:Nat) (w:World) (hL:Tm.err L1 = 0) (hL1:Ints w.heap.size w a1 L1) (Rl:Ints w.heap.size w b1 R1) (hL2:Ints w.heap.size w a2 L2) (hR2:Ints w.heap.size w b2 R2) (k1:L1.length≤c1) (k2:c1≤maxLen) (k3:L2.length≤c2) (k4:c2≤maxLen)
 (h9:w.cell? ⟨B9,0,none⟩ = some (.slice a1 L1.length c1)) (h4:w.cell? ⟨B4,0,none⟩ = some (.int .i64 i)) (h5:w.cell? ⟨B5,0,none⟩ = some (.int .i64 j)) :
 Calls Tryz.prog 78 #[.agg #[.slice a1 L1.length c1,.slice b1 R1.length d1],.agg #[.slice a2 L2.length c2,.slice b2 R2.length d2],.func (.func 77) #[] #[.pointer (some ⟨B9,0,none⟩),.pointer (some ⟨B4,0,none⟩),.pointer (some ⟨B5,0,none⟩)]] w fun e w'=>∃ er ps v,Tm.iO L1 R1 L2 R2 (Tm.jd L1 i j) er ps∧e = .returned (.tuple #[v,.int .i64 er])∧fO w.heap.size w' v ps∧Below w.heap.size w w':=by
 obtain ⟨F,hF⟩:∃ F,F = Fence.wide:=⟨_,rfl⟩;refine (callsIn_wide (n:=3)).1 ?_;rw [← hF];obtain ⟨hro,hfn,hdd,jv⟩:=fC hF;have qz:Hid (Pl F):=by rw [hF];exact iZ
 have HF:=hid hF;clear hF;have hf1:=hfn 78;have PU:=hfn 50;have RZ:=hfn 70;have hf6:=hfn 106;have hf7:=hfn 107;have hf8:=hfn 77;clear hfn;have l30:=Tm.aI hL;have Vw:=Tm.bM hL;have l9:=lt_of_cell h9;have l4:=lt_of_cell h4;have l5:=lt_of_cell h5;obtain ⟨W5,mG⟩:∃ W5,((((w.alloc (.cells #[.slice a1 L1.length c1,.slice b1 R1.length d1] 54)).alloc (.cells #[.slice a2 L2.length c2,.slice b2 R2.length d2] 54)).alloc (.cells #[.func (.func 77) #[] #[.pointer (some ⟨B9,0,none⟩),.pointer (some ⟨B4,0,none⟩),.pointer (some ⟨B5,0,none⟩)]] 98)).alloc (.cells #[.slice none 0 0] 24)).alloc (.cells #[.int .i64 0] 25) = W5:=⟨_,rfl⟩;obtain ⟨gq,Yh,bO2,bF,b0,b1',hs5⟩:=L9 w W5 _ _ _ _ _ mG;have Va:=hid mG;clear mG;have z0:(W5.alloc (.cells #[.slice none 0 0] 24)).cell? ⟨w.heap.size,0,none⟩ = some (.slice a1 L1.length c1):=(Yh.alloc _).cell0;refine callsIn_of_wp_marks Tryz.func78 rfl hf1 ?_ hro;simp only [Tryz.ntmps78,List.size_toArray,List.length_cons,List.length_nil,Nat.reduceAdd,Nat.reduceSub,Array.replicate_succ,Array.replicate_zero,List.push_toArray,List.append_toArray,List.nil_append,List.cons_append];gi_wp2_with fail
 rw [Va.out];gi_wp2_with (first
  | ((try refine ⟨hdd _,?_⟩);gi_at_call 50;refine (Ei F qz.out _ _ _ _ _).mono ?_;rintro e w' ⟨rfl,rfl⟩))
 have hBx:Below W5.heap.size W5 ((W5.alloc (.cells #[.slice none 0 0] 24)).alloc (.cells #[.slice a1 L1.length c1] 35)):=((Below.refl _ W5).alloc (Nat.le_refl _) _).alloc (by simp) _;have bO:=(Boxed.new W5 24 (.slice none 0 0)).alloc (.cells #[.slice a1 L1.length c1] 35);have bP:=Boxed.new (W5.alloc (.cells #[.slice none 0 0] 24)) 35 (.slice a1 L1.length c1);rw [World.size_alloc] at bP;rw [hs5] at bO bP hBx;have I0:abR L1 R1 L2 R2 (Tm.jd L1 i j) W5 (w.heap.size+1+1+1+1+1) (.slice a1 L1.length c1) 0 ((W5.alloc (.cells #[.slice none 0 0] 24)).alloc (.cells #[.slice a1 L1.length c1] 35)):=⟨⟨[],.zero,⟨⟨_,bO,fO.nil _ _⟩,bP,hBx⟩⟩⟩;have hs7:((W5.alloc (.cells #[.slice none 0 0] 24)).alloc (.cells #[.slice a1 L1.length c1] 35)).heap.size = w.heap.size+1+1+1+1+1+1+1:=by simp [hs5]
 obtain ⟨W7,OT⟩:∃ W7,(W5.alloc (.cells #[.slice none 0 0] 24)).alloc (.cells #[.slice a1 L1.length c1] 35) = W7:=⟨_,rfl⟩;rw [OT] at I0 hs7 ⊢;have HL1:=hid hL1;have HR1:=hid Rl;have HL2:=hid hL2;have HR2:=hid hR2;have OU:(L1.length:Int)≤30:=by omega
 have Hs5:=hid hs5;have H9:=hid h9;have H4:=hid h4;have H5:=hid h5;have HB5:=hid gq;have hnn:w.heap.size+1+1+1+1+1≤W5.heap.size:=by omega
 clear OT bO bP hBx z0 hL1 Rl hL2 hR2 h9 h4 h5 hs5 Va;refine dU hro (by omega) (gf:=70) (lb:=#[.pointer (some ⟨w.heap.size+1+1+1+1+1+1,0,none⟩)]) rfl RZ (enters_of Tryz.func70 (by kernel_rfl) rfl)
  (zk F qz.out _ (w.heap.size+1+1+1+1+1+1) c1 a1 L1 (by omega)) (fun _=>rfl)
  (abR L1 R1 L2 R2 (Tm.jd L1 i j) W5 (w.heap.size+1+1+1+1+1) (.slice a1 L1.length c1)) (abS L1 R1 L2 R2 (Tm.jd L1 i j) w w.heap.size) (fun _ _=>False) (.inl fun _ _ h=>h)
  (by
    rintro m X Y row ⟨l,hl,inv⟩ hg hr;exact ⟨l,hl,inv.own hnn (by omega) hg hr⟩)
  (by
    rintro c X Y row ⟨q1,kp,er,q2,q3,q4⟩ hg hr;exact ⟨q1,⟨hg.os.trans kp.os,hg.tape.trans kp.tape,hg.output.trans kp.output,Nat.le_trans kp.size hg.size,fun k hk=>(hg.block k (by have:=kp.size;omega) (fun e=>by have:=(hr k e.symm).1;omega)).trans (kp.block k hk)⟩,er,q2,dm q3 hg hr,dm q4 hg hr⟩)
  (fun m W hI=>by
    obtain ⟨l,_,inv⟩:=hI;have hb:=HB5.out.trans (inv.kp.mono (by omega));exact ⟨inv.bP.cell,(HL1.out.below hb).mono hb.size⟩)
  I0
  (fun m=>{ tmps:=#[.agg #[.slice a1 L1.length c1,.slice b1 R1.length d1],.agg #[.slice a2 L2.length c2,.slice b2 R2.length d2],.func (.func 77) #[] #[.pointer (some ⟨B9,0,none⟩),.pointer (some ⟨B4,0,none⟩),.pointer (some ⟨B5,0,none⟩)],.pointer (some ⟨w.heap.size,0,none⟩),.pointer (some ⟨w.heap.size+1,0,none⟩),.pointer (some ⟨w.heap.size+1+1,0,none⟩),.pointer (some ⟨w.heap.size+1+1+1,0,none⟩),.pointer (some ⟨w.heap.size+1+1+1+1,0,none⟩),.pointer (some ⟨w.heap.size+1+1+1+1+1,0,none⟩),.int .i64 (m:Int),.int .i64 (Tm.ai L1 m:Int),undef,undef,undef,undef,.pointer (some ⟨w.heap.size,0,none⟩),.slice a1 L1.length c1,.func (.func 70) #[] #[.pointer (some ⟨w.heap.size+1+1+1+1+1+1,0,none⟩)],.int .i64 (m:Int),.int .i64 (Tm.ai L1 m:Int),undef,undef,undef,undef,undef,undef,undef,undef,undef,undef,undef,undef,undef,undef,undef,undef,undef,undef,undef,undef,undef,undef,undef,undef,undef,undef,undef,undef,undef,undef,undef,undef,undef,undef,undef,undef],defers:=[] }) ?assign ?body ?done ?stop ?panic
 case assign =>
  intro l m W K hK;simp only [SI];gi_wp2
  exact hK
 case body =>
  rintro l m W ⟨lp,hlp,inv⟩ hm;have hbW:Below w.heap.size w W:=HB5.out.trans (inv.kp.mono (by omega));have hsW:W5.heap.size≤W.heap.size:=inv.kp.size;have cF:W.cell? ⟨w.heap.size+1+1,0,none⟩ = some (.func (.func 77) #[] #[.pointer (some ⟨B9,0,none⟩),.pointer (some ⟨B4,0,none⟩),.pointer (some ⟨B5,0,none⟩)]):=(inv.kp.cell (p:=⟨w.heap.size+1+1,0,none⟩) (by show w.heap.size+1+1 < w.heap.size+1+1+1+1+1;omega)).trans bF.cell;have c0:W.cell? ⟨w.heap.size,0,none⟩ = some (.slice a1 L1.length c1):=(inv.kp.cell (p:=⟨w.heap.size,0,none⟩) (by show w.heap.size < w.heap.size+1+1+1+1+1;omega)).trans Yh.cell0;have c01:W.cell? ⟨w.heap.size,1,none⟩ = some (.slice b1 R1.length d1):=(inv.kp.cell (p:=⟨w.heap.size,1,none⟩) (by show w.heap.size < w.heap.size+1+1+1+1+1;omega)).trans Yh.cell1;have c1':W.cell? ⟨w.heap.size+1,0,none⟩ = some (.slice a2 L2.length c2):=(inv.kp.cell (p:=⟨w.heap.size+1,0,none⟩) (by show w.heap.size+1 < w.heap.size+1+1+1+1+1;omega)).trans bO2.cell0;have c11:W.cell? ⟨w.heap.size+1,1,none⟩ = some (.slice b2 R2.length d2):=(inv.kp.cell (p:=⟨w.heap.size+1,1,none⟩) (by show w.heap.size+1 < w.heap.size+1+1+1+1+1;omega)).trans bO2.cell1;have Hp:=hid (CallsIn.inRound l (jv (n:=0) (SL L1 a1 c1 i j m B9 B4 B5 W hm ((HL1.out.below hbW).mono hbW.size) ((hbW.cell (p:=⟨B9,0,none⟩) l9).trans H9.out) ((hbW.cell (p:=⟨B4,0,none⟩) l4).trans H4.out) ((hbW.cell (p:=⟨B5,0,none⟩) l5).trans H5.out))));have Hlp:=hid hlp;have Vx:=hid inv;have BM:=hid (fun (h:Tm.jd L1 i j m = true)=>Tm.jP.pass hlp h);have hno:=hid (fun (h:Tm.jd L1 i j m = false) val hs=>Tm.jP.no (val:=val) hlp h hs);have hye:=hid (fun (h:Tm.jd L1 i j m = false) val hs he=>Tm.jP.yes (val:=val) hlp h hs he);have hbad:=hid (fun (h:Tm.jd L1 i j m = false) e (h0:e≠0) hs=>(⟨h0,m,lp,hm,hlp,h,hs⟩:Tm.zn L1 R1 L2 R2 (Tm.jd L1 i j) e));have hlen:=hlp.len;clear hlp inv;by_cases J5:Tm.jd L1 i j m = true
  ·rw [J5] at Hp
   have hY:=hid (BM.out J5);clear J5 BM hno hye hbad;gi_wp2_with (first
    | ((try refine ⟨hdd _,?_⟩);gi_at_call 77;refine Hp.out.mono ?_;clear Hp;rintro e W ⟨rfl,rfl⟩))
   exact ⟨KeepsFrom.refl _ _,⟨lp,hY.out,Vx.out⟩⟩
  ·have hpf:Tm.jd L1 i j m = false:=by simpa using J5
   rw [hpf] at Hp;have Hno:=hid (hno.out hpf);have Hye:=hid (hye.out hpf);have FC:=hid (hbad.out hpf);clear J5 hpf BM hno hye hbad;obtain ⟨ba,oa,rfl,Rk,_⟩:=HL1.out.at Vw;have pgt:=Tm.dw L1 m;have ple:=Tm.fV hL hm;have hpl:=Tm.dF hL hm;have hBd:Below W.heap.size W W.drew:=below_drewN (Below.refl _ W) 1;have Vy:=hbW.trans (hBd.mono hbW.size);have HmC:=SC (Tm.part L1 m) L2 (some ⟨ba,oa+m,none⟩) a2 (c1 - m) c2 W.drew (((HL1.out.sub m _).below Vy).mono Vy.size) ((HL2.out.below Vy).mono Vy.size) (by rw [hpl];omega) (by omega) k3 k4;rw [hpl] at HmC;have Hm:=hid (CallsIn.inRound l (jv (n:=0) HmC));have q1:(m:Int)≤(Tm.ai L1 m:Int):=by omega
   have q2:(Tm.ai L1 m:Int)≤(c1:Int):=by omega
   have q3:¬ c1 - m = 0:=by omega
   have q4:(0:Int)≤(m:Int):=by omega
   have q5:¬ c1 = m:=by omega
   have mixed:Tryz.prog.follows .mixedOrders = true:=by kernel_rfl
   clear HmC hpl;gi_wp2_with (first
    | ((try refine ⟨hdd _,?_⟩);gi_at_call 77;refine Hp.out.mono ?_;clear Hp;rintro e W ⟨rfl,rfl⟩))
   have Vz:Hid (∀ X:World,Io W5 (w.heap.size+1+1+1+1+1) (.slice (some ⟨ba,oa,none⟩) L1.length c1) lp X→Boxed X (w.heap.size+1+1+1) 24 (.slice none 0 0)∧Boxed X (w.heap.size+1+1+1+1) 25 (.int .i64 0)):=fun X h=>⟨(h.kp.block _ (by omega)).trans b0,(h.kp.block _ (by omega)).trans b1'⟩
   refine wpIn_mono (Q:=fun e a' W'=>e = .normal∧∃ er is val x,a' = { tmps:=#[.agg #[.slice (some ⟨ba,oa,none⟩) L1.length c1,.slice b1 R1.length d1],.agg #[.slice a2 L2.length c2,.slice b2 R2.length d2],.func (.func 77) #[] #[.pointer (some ⟨B9,0,none⟩),.pointer (some ⟨B4,0,none⟩),.pointer (some ⟨B5,0,none⟩)],.pointer (some ⟨w.heap.size,0,none⟩),.pointer (some ⟨w.heap.size+1,0,none⟩),.pointer (some ⟨w.heap.size+1+1,0,none⟩),.pointer (some ⟨w.heap.size+1+1+1,0,none⟩),.pointer (some ⟨w.heap.size+1+1+1+1,0,none⟩),.pointer (some ⟨w.heap.size+1+1+1+1+1,0,none⟩),.int .i64 (m:Int),.int .i64 (Tm.ai L1 m:Int),.slice x val.length val.length,.bool is,.int .i64 er,undef,.pointer (some ⟨w.heap.size,0,none⟩),.slice (some ⟨ba,oa,none⟩) L1.length c1,.func (.func 70) #[] #[.pointer (some ⟨w.heap.size+1+1+1+1+1+1,0,none⟩)],.int .i64 (m:Int),.int .i64 (Tm.ai L1 m:Int),.func (.func 77) #[] #[.pointer (some ⟨B9,0,none⟩),.pointer (some ⟨B4,0,none⟩),.pointer (some ⟨B5,0,none⟩)],.int .i64 (m:Int),.bool false,.tuple #[.slice x val.length val.length,.bool is,.int .i64 er],.pointer (some ⟨w.heap.size,0,none⟩),.slice (some ⟨ba,oa,none⟩) L1.length c1,.int .i64 (m:Int),.int .i64 (Tm.ai L1 m:Int),.slice (some ⟨ba,oa+m,none⟩) (Tm.ai L1 m - m) (c1 - m),.pointer (some ⟨w.heap.size+1,0,none⟩),.slice a2 L2.length c2,.tuple #[.slice x val.length val.length,.bool is,.int .i64 er],.slice x val.length val.length,.bool is,.int .i64 er,undef,undef,undef,undef,undef,undef,undef,undef,undef,undef,undef,undef,undef,undef,undef,undef,undef,undef,undef,undef,undef],defers:=[] }∧Tm.dQ [(Tm.part L1 m,L2)] er is val∧gu W'.heap.size W' x val∧Below W.drew.heap.size W.drew W') ?reg ?cont
   case reg =>
    refine nA hro (by kernel_rfl) mixed ?_;show wpAnyIn F _ _ _ _ _ 15 (Array.replicate 15 false) _ _;refine wpAnyIn_take (i:=0) (v:=.pointer (some ⟨w.heap.size,0,none⟩)) hro rfl (by kernel_rfl) (by kernel_rfl) (by kernel_rfl) (fun _ _ _ h=>absurd h.1 (by simp)) ⟨Or.inl ⟨by rfl,fun w=>by go_simp⟩,fun _=>rfl⟩ ?_;refine wpAnyIn_take (i:=2) (v:=.int .i64 (m:Int)) hro rfl (by kernel_rfl) (by kernel_rfl) (by kernel_rfl) (fun _ _ _ h=>absurd h.1 (by simp)) ⟨Or.inl ⟨by rfl,fun w=>by go_simp⟩,fun _=>rfl⟩ ?_;refine wpAnyIn_take (i:=3) (v:=.int .i64 (Tm.ai L1 m:Int)) hro rfl (by kernel_rfl) (by kernel_rfl) (by kernel_rfl) (fun _ _ _ h=>absurd h.1 (by simp)) ⟨Or.inl ⟨by rfl,fun w=>by go_simp⟩,fun _=>rfl⟩ ?_;refine wpAnyIn_take (i:=5) (v:=.pointer (some ⟨w.heap.size+1,0,none⟩)) hro rfl (by kernel_rfl) (by kernel_rfl) (by kernel_rfl) (fun _ _ _ h=>absurd h.1 (by simp)) ⟨Or.inl ⟨by rfl,fun w=>by go_simp⟩,fun _=>rfl⟩ ?_;refine wpAnyIn_ready (rs:=[1,6]) (by kernel_rfl) (by simp) ?_;refine AllReadyIn.cons rfl (fun K hK=>?_) (AllReadyIn.cons rfl (fun K hK=>?_) AllReadyIn.nil)
    ·go_simp
     refine hK _ _ ?_;clear hK K;refine wpAnyIn_take (i:=4) (v:=.slice (some ⟨ba,oa+m,none⟩) (Tm.ai L1 m - m) (c1 - m)) hro rfl (by kernel_rfl) (by kernel_rfl) (by kernel_rfl) (fun _ _ _ h=>absurd h.1 (by simp)) ⟨Or.inl ⟨by rfl,fun w=>by go_simp⟩,fun _=>rfl⟩ ?_;refine wpAnyIn_ready (rs:=[6]) (by kernel_rfl) (by simp) ?_;refine AllReadyIn.cons rfl (fun K hK=>?_) AllReadyIn.nil;go_simp;refine hK _ _ ?_;clear hK K;refine wpAnyIn_ready (rs:=[7]) (by kernel_rfl) (by simp) ?_;refine AllReadyIn.cons rfl (fun K hK=>?_) AllReadyIn.nil;go_simp;gi_wp2_with (first | ((try refine ⟨hdd _,?_⟩);gi_at_call 106;refine Hm.out.mono ?_;rintro e W1 ⟨Iu,er,is,val,x,qg,rfl,hS1⟩))
     refine wpAnyIn_take (i:=8) (v:=.tuple #[.slice x val.length val.length,.bool is,.int .i64 er]) hro rfl (by kernel_rfl) (by kernel_rfl) (by kernel_rfl) (fun _ _ _ h=>absurd h.1 (by simp)) ⟨Or.inl ⟨by rfl,fun w=>by go_simp⟩,fun _=>rfl⟩ ?_;refine wpAnyIn_take (i:=9) (v:=.slice x val.length val.length) hro rfl (by kernel_rfl) (by kernel_rfl) (by kernel_rfl) (fun _ _ _ h=>absurd h.1 (by simp)) ⟨Or.inl ⟨by rfl,fun w=>by go_simp⟩,fun _=>rfl⟩ ?_;refine wpAnyIn_take (i:=10) (v:=.bool is) hro rfl (by kernel_rfl) (by kernel_rfl) (by kernel_rfl) (fun _ _ _ h=>absurd h.1 (by simp)) ⟨Or.inl ⟨by rfl,fun w=>by go_simp⟩,fun _=>rfl⟩ ?_;refine wpAnyIn_take (i:=11) (v:=.int .i64 er) hro rfl (by kernel_rfl) (by kernel_rfl) (by kernel_rfl) (fun _ _ _ h=>absurd h.1 (by simp)) ⟨Or.inl ⟨by rfl,fun w=>by go_simp⟩,fun _=>rfl⟩ ?_;refine wpAnyIn_take (i:=12) (v:=.slice x val.length val.length) hro rfl (by kernel_rfl) (by kernel_rfl) (by kernel_rfl) (fun _ _ _ h=>absurd h.1 (by simp)) ⟨Or.inl ⟨by rfl,fun w=>by go_simp⟩,fun _=>rfl⟩ ?_;refine wpAnyIn_take (i:=13) (v:=.bool is) hro rfl (by kernel_rfl) (by kernel_rfl) (by kernel_rfl) (fun _ _ _ h=>absurd h.1 (by simp)) ⟨Or.inl ⟨by rfl,fun w=>by go_simp⟩,fun _=>rfl⟩ ?_;refine wpAnyIn_ready (rs:=[14]) (by kernel_rfl) (by simp) ?_;refine AllReadyIn.cons rfl (fun K hK=>?_) AllReadyIn.nil;go_simp;refine hK _ _ ?_;clear hK K;refine wpAnyIn_done (by kernel_rfl) ?_ _;exact ⟨rfl,er,is,val,x,rfl,qg,hS1,Iu⟩
    ·go_simp
     refine hK _ _ ?_;clear hK K;refine wpAnyIn_ready (rs:=[1]) (by kernel_rfl) (by simp) ?_;refine AllReadyIn.cons rfl (fun K hK=>?_) AllReadyIn.nil;go_simp;refine hK _ _ ?_;clear hK K;refine wpAnyIn_take (i:=4) (v:=.slice (some ⟨ba,oa+m,none⟩) (Tm.ai L1 m - m) (c1 - m)) hro rfl (by kernel_rfl) (by kernel_rfl) (by kernel_rfl) (fun _ _ _ h=>absurd h.1 (by simp)) ⟨Or.inl ⟨by rfl,fun w=>by go_simp⟩,fun _=>rfl⟩ ?_;refine wpAnyIn_ready (rs:=[7]) (by kernel_rfl) (by simp) ?_;refine AllReadyIn.cons rfl (fun K hK=>?_) AllReadyIn.nil;go_simp;gi_wp2_with (first | ((try refine ⟨hdd _,?_⟩);gi_at_call 106;refine Hm.out.mono ?_;rintro e W1 ⟨Iu,er,is,val,x,qg,rfl,hS1⟩))
     refine wpAnyIn_take (i:=8) (v:=.tuple #[.slice x val.length val.length,.bool is,.int .i64 er]) hro rfl (by kernel_rfl) (by kernel_rfl) (by kernel_rfl) (fun _ _ _ h=>absurd h.1 (by simp)) ⟨Or.inl ⟨by rfl,fun w=>by go_simp⟩,fun _=>rfl⟩ ?_;refine wpAnyIn_take (i:=9) (v:=.slice x val.length val.length) hro rfl (by kernel_rfl) (by kernel_rfl) (by kernel_rfl) (fun _ _ _ h=>absurd h.1 (by simp)) ⟨Or.inl ⟨by rfl,fun w=>by go_simp⟩,fun _=>rfl⟩ ?_;refine wpAnyIn_take (i:=10) (v:=.bool is) hro rfl (by kernel_rfl) (by kernel_rfl) (by kernel_rfl) (fun _ _ _ h=>absurd h.1 (by simp)) ⟨Or.inl ⟨by rfl,fun w=>by go_simp⟩,fun _=>rfl⟩ ?_;refine wpAnyIn_take (i:=11) (v:=.int .i64 er) hro rfl (by kernel_rfl) (by kernel_rfl) (by kernel_rfl) (fun _ _ _ h=>absurd h.1 (by simp)) ⟨Or.inl ⟨by rfl,fun w=>by go_simp⟩,fun _=>rfl⟩ ?_;refine wpAnyIn_take (i:=12) (v:=.slice x val.length val.length) hro rfl (by kernel_rfl) (by kernel_rfl) (by kernel_rfl) (fun _ _ _ h=>absurd h.1 (by simp)) ⟨Or.inl ⟨by rfl,fun w=>by go_simp⟩,fun _=>rfl⟩ ?_;refine wpAnyIn_take (i:=13) (v:=.bool is) hro rfl (by kernel_rfl) (by kernel_rfl) (by kernel_rfl) (fun _ _ _ h=>absurd h.1 (by simp)) ⟨Or.inl ⟨by rfl,fun w=>by go_simp⟩,fun _=>rfl⟩ ?_;refine wpAnyIn_ready (rs:=[14]) (by kernel_rfl) (by simp) ?_;refine AllReadyIn.cons rfl (fun K hK=>?_) AllReadyIn.nil;go_simp;refine hK _ _ ?_;clear hK K;refine wpAnyIn_done (by kernel_rfl) ?_ _;exact ⟨rfl,er,is,val,x,rfl,qg,hS1,Iu⟩
   case cont =>
    rintro e a' W1 ⟨rfl,er,is,val,x,rfl,qg,hS1,hB1⟩;have hBW1:Below W.heap.size W W1:=hBd.trans (hB1.mono (Nat.le_refl _));have inv1:=Vx.out.below hnn hBW1;have kf1:KeepsFrom W7.heap.size W W1:=dV hBW1;have hb1:=hbW.trans (hBW1.mono hbW.size);have akI:=hBW1.size;have FD:=hid qg;have Vb:=hid hS1;clear qg hS1 hB1 Hm;by_cases he:er = 0
    ·subst he
     cases is with
     | false =>
      gi_wp2
      exact ⟨kf1,⟨lp,Hno.out val FD.out,inv1⟩⟩
     | true =>
      have e00:W1.cell? ⟨w.heap.size,0,none⟩ = some (.slice (some ⟨ba,oa,none⟩) L1.length c1):=(hBW1.cell (p:=⟨w.heap.size,0,none⟩) (by show w.heap.size < _;omega)).trans c0;have e01:W1.cell? ⟨w.heap.size,1,none⟩ = some (.slice b1 R1.length d1):=(hBW1.cell (p:=⟨w.heap.size,1,none⟩) (by show w.heap.size < _;omega)).trans c01;have e10:W1.cell? ⟨w.heap.size+1,0,none⟩ = some (.slice a2 L2.length c2):=(hBW1.cell (p:=⟨w.heap.size+1,0,none⟩) (by show w.heap.size+1 < _;omega)).trans c1';have e11:W1.cell? ⟨w.heap.size+1,1,none⟩ = some (.slice b2 R2.length d2):=(hBW1.cell (p:=⟨w.heap.size+1,1,none⟩) (by show w.heap.size+1 < _;omega)).trans c11;have Hpt:=hid (CallsIn.inRound l (jv (n:=0) (LV val L1 R1 R2 (m:Int) (some ⟨ba,oa,none⟩) b1 a2 b2 x c1 d1 L2.length c2 d2 val.length W1 ((HL1.out.below hb1).mono hb1.size) ((HR1.out.below hb1).mono hb1.size) ((HR2.out.below hb1).mono hb1.size) Vb.out k1 k2)));have Hy:=hid (Hye.out val FD.out);have Hbd:=hid (fun e h0 h=>FC.out e h0 (.inr ⟨val,FD.out,h⟩));clear Hno Hye FC;by_cases hpe:Tm.fD val L1 R1 (m:Int) R2 = 0
      ·rw [hpe] at Hpt
       have HY:=hid (Hy.out hpe);clear hpe Hbd Hy;generalize Tm.gm val L1 R1 (m:Int) R2 = pv at *;obtain ⟨pX,pY⟩:=pv;have hle:=hid (show lp.length≤1000000 by omega);gi_wp2_with (first
        | ((try refine ⟨hdd _,?_⟩);gi_at_call 107;refine Hpt.out.mono ?_;clear Hpt;rintro e W2 ⟨v2,u2,rfl,n2,u2n,hB2⟩;obtain ⟨x8,c8,rfl,_⟩:=New.ints n2;obtain ⟨x9,c9,rfl,_⟩:=New.ints u2n;have hs2:=hB2.size;have P0:=bZ.new W2 40 (.slice x8 pX.length c8) (.slice x9 pY.length c9);have y0:=P0.cell0;have y1:=P0.cell1;have Xt:Below W2.heap.size W2 (W2.alloc (.cells #[.slice x8 pX.length c8,.slice x9 pY.length c9] 40)):=(Below.refl _ W2).alloc (Nat.le_refl _) _;have Ma:=(inv1.below hnn hB2).below hnn Xt;obtain ⟨vo,Sy,yT⟩:=Ma.out;obtain ⟨va,vc,rfl⟩:=yT.slice;have cO:=Sy.cell;have hBx:Below (W2.alloc (.cells #[.slice x8 pX.length c8,.slice x9 pY.length c9] 40)).heap.size (W2.alloc (.cells #[.slice x8 pX.length c8,.slice x9 pY.length c9] 40)) ((W2.alloc (.cells #[.slice x8 pX.length c8,.slice x9 pY.length c9] 40)).alloc (.cells #[.slice x8 pX.length c8,.slice x9 pY.length c9] 40)):=(Below.refl _ _).alloc (Nat.le_refl _) _;have P1:=bZ.new (W2.alloc (.cells #[.slice x8 pX.length c8,.slice x9 pY.length c9] 40)) 40 (.slice x8 pX.length c8) (.slice x9 pY.length c9);rw [World.size_alloc] at P1;have e0:=P1.cell0;have e1:=P1.cell1)
        | (gi_at_builtin;(refine CL _ rfl _ _ rfl (w.heap.size+1+1+1+1+1) _ lp rfl (yT.below hBx) (.slice x8 pX.length c8) (.slice x9 pY.length c9) pX pY (W2.heap.size+1) rfl e0 e1 (New.below (New.below (n2.mono (by omega)) Xt) hBx) (New.below (New.below (u2n.mono (by omega)) Xt) hBx) hle.out (by have:=Ma.kp.size;simp;omega) ?_);intro v' w9 SS hg9 El;obtain ⟨g9,c9',rfl⟩:=El;have R9:=SN (C:=W7.heap.size) hnn Sy yT Ma.bP Ma.kp SS hg9;have cO9:=R9.1.cell;have fO9:=R9.1.frozen))
       exact ⟨((kf1.trans (dV hB2)).trans (dV Xt)).trans R9.2.2,⟨_,HY.out,R9.2.1⟩⟩
      ·have afd:=hid (Hbd.out _ hpe rfl)
       have hne:(Tm.fD val L1 R1 (m:Int) R2 != 0) = true:=by simpa using hpe
       clear hpe Hbd Hy;generalize Tm.fD val L1 R1 (m:Int) R2 = q at *;generalize Tm.gm val L1 R1 (m:Int) R2 = pv at *;obtain ⟨pX,pY⟩:=pv;gi_wp2_with (first
        | ((try refine ⟨hdd _,?_⟩);gi_at_call 107;refine Hpt.out.mono ?_;clear Hpt;rintro e W2 ⟨v2,u2,rfl,n2,u2n,hB2⟩;obtain ⟨x8,c8,rfl,_⟩:=New.ints n2;obtain ⟨x9,c9,rfl,_⟩:=New.ints u2n;have hs2:=hB2.size;have Xt:Below W2.heap.size W2 (W2.alloc (.cells #[.slice x8 pX.length c8,.slice x9 pY.length c9] 40)):=(Below.refl _ W2).alloc (Nat.le_refl _) _;have Ma:=(inv1.below hnn hB2).below hnn Xt;have b04:Boxed (W2.alloc (.cells #[.slice x8 pX.length c8,.slice x9 pY.length c9] 40)) (w.heap.size+1+1+1) 24 (.slice none 0 0):=(Vz.out (W2.alloc (.cells #[.slice x8 pX.length c8,.slice x9 pY.length c9] 40)) Ma).1;have b14:Boxed (W2.alloc (.cells #[.slice x8 pX.length c8,.slice x9 pY.length c9] 40)) (w.heap.size+1+1+1+1) 25 (.int .i64 0):=(Vz.out (W2.alloc (.cells #[.slice x8 pX.length c8,.slice x9 pY.length c9] 40)) Ma).2;have k0:=b04.cell;have k1:=b14.cell;have f0:=b04.frozen;have f1:=b14.frozen;have Yt:Boxed ((W2.alloc (.cells #[.slice x8 pX.length c8,.slice x9 pY.length c9] 40)).setCell ⟨w.heap.size+1+1+1,0,none⟩ (.slice none 0 0)) (w.heap.size+1+1+1+1) 25 (.int .i64 0):=(Below.heap_setCell (W2.alloc (.cells #[.slice x8 pX.length c8,.slice x9 pY.length c9] 40)) ⟨w.heap.size+1+1+1,0,none⟩ _ (w.heap.size+1+1+1+1) (by show w.heap.size+1+1+1+1≠w.heap.size+1+1+1;omega)).trans b14;have k1':=Yt.cell;have Ro:=Yt.frozen))
       refine ⟨(((kf1.trans (dV hB2)).trans (dV Xt)).trans ((KeepsOthers.setCell _ _ _).from _)).trans ((KeepsOthers.setCell _ _ _).from _),rfl,?_,_,afd.out,?_,?_⟩
       ·exact (((hb1.trans (hB2.mono hb1.size)).trans (Xt.mono (by have:=hb1.size;omega))).setCell (p:=⟨w.heap.size+1+1+1,0,none⟩) (by show w.heap.size≤w.heap.size+1+1+1;omega) _).setCell (p:=⟨w.heap.size+1+1+1+1,0,none⟩) (by show w.heap.size≤w.heap.size+1+1+1+1;omega) _
       ·exact (Below.heap_setCell _ ⟨w.heap.size+1+1+1+1,0,none⟩ _ (w.heap.size+1+1+1) (by show w.heap.size+1+1+1≠w.heap.size+1+1+1+1;omega)).trans (b04.set _)
       ·exact Yt.set _
    ·have Hb:=hid (FC.out er he (.inl ⟨is,val,FD.out⟩))
     have hne:(er != 0) = true:=by simpa using he
     clear he Hno Hye FC;have b01:Boxed W1 (w.heap.size+1+1+1) 24 (.slice none 0 0):=(Vz.out W1 inv1).1;have b11:Boxed W1 (w.heap.size+1+1+1+1) 25 (.int .i64 0):=(Vz.out W1 inv1).2;have k0:=b01.cell;have k1:=b11.cell;have f0:=b01.frozen;have f1:=b11.frozen;have Yu:Boxed (W1.setCell ⟨w.heap.size+1+1+1,0,none⟩ (.slice none 0 0)) (w.heap.size+1+1+1+1) 25 (.int .i64 0):=(Below.heap_setCell W1 ⟨w.heap.size+1+1+1,0,none⟩ _ (w.heap.size+1+1+1+1) (by show w.heap.size+1+1+1+1≠w.heap.size+1+1+1;omega)).trans b11;have k1':=Yu.cell;have Ro:=Yu.frozen;gi_wp2
     refine ⟨(kf1.trans ((KeepsOthers.setCell _ _ _).from _)).trans ((KeepsOthers.setCell _ _ _).from _),rfl,?_,_,Hb.out,?_,?_⟩
     ·exact ((hb1).setCell (p:=⟨w.heap.size+1+1+1,0,none⟩) (by show w.heap.size≤w.heap.size+1+1+1;omega) _).setCell (p:=⟨w.heap.size+1+1+1+1,0,none⟩) (by show w.heap.size≤w.heap.size+1+1+1+1;omega) _
     ·exact (Below.heap_setCell _ ⟨w.heap.size+1+1+1+1,0,none⟩ _ (w.heap.size+1+1+1) (by show w.heap.size+1+1+1≠w.heap.size+1+1+1+1;omega)).trans (b01.set _)
     ·exact Yu.set _
 case done =>
  rintro D W hD ⟨lp,hlp,inv⟩ qA;obtain ⟨v,hv,hN⟩:=inv.out;obtain ⟨va,vc,rfl⟩:=hN.slice;have cO:=hv.cell;have VA:Boxed W (w.heap.size+1+1+1) 24 (.slice none 0 0):=(inv.kp.block _ (by omega)).trans b0;have Yv:Boxed W (w.heap.size+1+1+1+1) 25 (.int .i64 0):=(inv.kp.block _ (by omega)).trans b1';have k0:=VA.cell;have k1w:=Yv.cell;have f0:=VA.frozen;have f1:=Yv.frozen;have b0X:=VA.set (.slice va lp.length vc);have VB:Boxed (W.setCell ⟨w.heap.size+1+1+1,0,none⟩ (.slice va lp.length vc)) (w.heap.size+1+1+1+1) 25 (.int .i64 0):=(Below.heap_setCell W ⟨w.heap.size+1+1+1,0,none⟩ _ (w.heap.size+1+1+1+1) (by show w.heap.size+1+1+1+1≠w.heap.size+1+1+1;omega)).trans Yv;have k1X:=VB.cell;have f1X:=VB.frozen;rw [hs7] at hD;have HN:=hid hN;have Rm:=hid inv.kp;have Hlp:=hid hlp;clear hN inv hlp;generalize hln:lp.length = ln at *;clear hln;gi_wp2
  have qB:((W.setCell ⟨w.heap.size+1+1+1,0,none⟩ (.slice va ln vc)).setCell ⟨w.heap.size+1+1+1+1,0,none⟩ (.int .i64 0)).heap[D]? = some (.deferred (some [])) :=
   (Below.heap_setCell _ ⟨w.heap.size+1+1+1+1,0,none⟩ _ D (show D≠w.heap.size+1+1+1+1 by omega)).trans ((Below.heap_setCell W ⟨w.heap.size+1+1+1,0,none⟩ _ D (show D≠w.heap.size+1+1+1 by omega)).trans qA)
  have b0Y:Boxed ((W.setCell ⟨w.heap.size+1+1+1,0,none⟩ (.slice va ln vc)).setCell ⟨w.heap.size+1+1+1+1,0,none⟩ (.int .i64 0)) (w.heap.size+1+1+1) 24 (.slice va ln vc) :=
   (Below.heap_setCell _ ⟨w.heap.size+1+1+1+1,0,none⟩ _ (w.heap.size+1+1+1) (by show w.heap.size+1+1+1≠w.heap.size+1+1+1+1;omega)).trans b0X
  have b1Y:=VB.set (.int .i64 0);refine ⟨by simp,.inl ⟨_,_,rfl,run_takeDeferred qB,?_⟩⟩;refine ⟨_,zm rfl rfl rfl ((World.cell?_of_block (a:=⟨w.heap.size+1+1+1,0,none⟩) (World.putObj_heap_other (show w.heap.size+1+1+1≠D by omega))).trans b0Y.cell) ((World.cell?_of_block (a:=⟨w.heap.size+1+1+1+1,0,none⟩) (World.putObj_heap_other (show w.heap.size+1+1+1+1≠D by omega))).trans b1Y.cell),?_⟩;refine ⟨0,lp,_,.inl ⟨rfl,Hlp.out⟩,rfl,?_,?_⟩
  ·have h1:=((HN.out.set VA (by decide) (by decide) (.slice va ln vc)).set VB (by decide) (by decide) (.int .i64 0)).other (grownBy_putObj' _ D (.deferred none)) (fun r e=>by cases e;exact ⟨_,qB,rfl⟩)
   exact h1.mono (by omega)
  ·have h0:=HB5.out.trans (Rm.out.mono (by omega))
   have h1:=(h0.setCell (p:=⟨w.heap.size+1+1+1,0,none⟩) (by show w.heap.size≤w.heap.size+1+1+1;omega) (.slice va ln vc)).setCell (p:=⟨w.heap.size+1+1+1+1,0,none⟩) (by show w.heap.size≤w.heap.size+1+1+1+1;omega) (.int .i64 0);exact ⟨h1.os,h1.tape,h1.output,by have:=h1.size;simpa using this,fun k hk=>(World.putObj_heap_other (by omega)).trans (h1.block k hk)⟩
 case stop =>
  rintro D c W hD ⟨rfl,kp,er,hbad,c0,c1'⟩ qA;rw [hs7] at hD;have k0:=c0.cell;have k1w:=c1'.cell;gi_wp2
  refine ⟨by simp,.inl ⟨_,_,rfl,run_takeDeferred qA,?_⟩⟩;refine ⟨_,zm rfl rfl rfl ((World.cell?_of_block (a:=⟨w.heap.size+1+1+1,0,none⟩) (World.putObj_heap_other (show w.heap.size+1+1+1≠D by omega))).trans k0) ((World.cell?_of_block (a:=⟨w.heap.size+1+1+1+1,0,none⟩) (World.putObj_heap_other (show w.heap.size+1+1+1+1≠D by omega))).trans k1w),?_⟩;exact ⟨er,[],_,.inr ⟨hbad,rfl⟩,rfl,fO.nil _ _,⟨kp.os,kp.tape,kp.output,by have:=kp.size;simpa using this,fun k hk=>(World.putObj_heap_other (by omega)).trans (kp.block k hk)⟩⟩
 case panic=>exact fun _ _ _ _ h=>h.elim
end
theorem kS (a:Option Addr) (n cap:Nat) (k:Int) (w:World):Calls Tryz.prog 76 #[.slice a n cap,.int .i64 k] w fun e w'=>e = .returned (.bool (decide (0≤k∧k < (n:Int))))∧w' = w:=by
 by_cases h0:0≤k
 ·by_cases h1:k < (n:Int)
  ·go_enter Tryz.func76,Tryz.ntmps76
   go_wp2;go_ret;exact ⟨by simp [h0,h1],rfl⟩
  ·have h1':decide (k < (n:Int)) = false:=by simpa using h1
   go_enter Tryz.func76,Tryz.ntmps76;go_wp2;go_ret;exact ⟨by simp,rfl⟩
 ·have h0':decide (0≤k) = false:=by simpa using h0
  go_enter Tryz.func76,Tryz.ntmps76;go_wp2;go_ret;exact ⟨by simp,rfl⟩
def Tm.dS (rs:aH) (i j er:Int) (ps:ah):Prop :=
 (Tm.aO rs≠0∧er = Tm.aO rs∧ps = []) ∨
 (Tm.aO rs = 0∧¬ (0≤i∧i < (rs.length:Int)∧0≤j∧j < (rs.length:Int))∧er = 5∧ps = []) ∨
 (Tm.aO rs = 0∧∃ a b:Nat,a < rs.length∧b < rs.length∧i = (a:Int)∧j = (b:Int)∧Tm.iO (rs[a]?.getD ([],[])).1 (rs[a]?.getD ([],[])).2 (Tm.others (rs[b]?.getD ([],[])).1) (Tm.others (rs[b]?.getD ([],[])).2) (Tm.jd (rs[a]?.getD ([],[])).1 i j) er ps)
def SV (rs:aH) (i j:Int) (w:World) (e:Ending) (w':World):Prop:=∃ er ps v,Tm.dS rs i j er ps∧e = .returned (.tuple #[v,.int .i64 er])∧fO w.heap.size w' v ps∧Below w.heap.size w w'
theorem SX (rs:aH) (i j:Nat) (hi:i < rs.length) (hj:j < rs.length) (a:Option Addr) (cap:Nat) (w:World) (hr:Tm.aO rs = 0) (hR:aJ w.heap.size w a rs) :
 Calls Tryz.prog 53 #[.slice a rs.length cap,.int .i64 (i:Int),.int .i64 (j:Int)] w fun e w'=>SV rs (i:Int) (j:Int) w e w':=by
 have hmf:∀ (fn:Fn) (first cap:Array Value) (w:World),(Instr.makeFunc fn first cap).run Tryz.prog w = .ok (.func fn first cap) w:=fun _ _ _ _=>rfl
 have hi':(i:Int) < (rs.length:Int):=by omega
 have hj':(j:Int) < (rs.length:Int):=by omega
 obtain ⟨h8,hall⟩:=Tm.di hr;obtain ⟨eL,eR,_⟩:=Tm.bI (hall i hi);obtain ⟨OV,Iw,_⟩:=Tm.bI (hall j hj);obtain ⟨W2,hW2⟩:∃ W2,(w.alloc (.cells #[.int .i64 (i:Int)] 3)).alloc (.cells #[.int .i64 (j:Int)] 3) = W2:=⟨_,rfl⟩;have hB2:Below w.heap.size w W2:=by rw [← hW2];exact ((Below.refl _ w).alloc (Nat.le_refl _) _).alloc (by simp) _
 have hs2:W2.heap.size = w.heap.size+2:=by rw [← hW2];simp
 have bi:Boxed W2 w.heap.size 3 (.int .i64 (i:Int)):=by rw [← hW2];exact (Boxed.new w _ _).alloc _
 have bj:Boxed W2 (w.heap.size+1) 3 (.int .i64 (j:Int)):=by
  rw [← hW2];have h:=Boxed.new (w.alloc (.cells #[.int .i64 (i:Int)] 3)) 3 (.int .i64 (j:Int));rwa [World.size_alloc] at h
 have C1:=hid (gL rs a cap W2 ((hR.below hB2).mono hB2.size));rw [hr] at C1;have afi:=hid (fun er ps (h:Tm.iO (rs[i]?.getD ([],[])).1 (rs[i]?.getD ([],[])).2 (Tm.others (rs[j]?.getD ([],[])).1) (Tm.others (rs[j]?.getD ([],[])).2) (Tm.jd (rs[i]?.getD ([],[])).1 (i:Int) (j:Int)) er ps)=>(.inr (.inr ⟨hr,i,j,hi,hj,rfl,rfl,h⟩):Tm.dS rs (i:Int) (j:Int) er ps));obtain ⟨b,off,rfl,hb,aL,cL,aR,cR,g1,g2,g3,g4,g5,g6,g7,g8⟩:=hR i hi;obtain ⟨b',off',e',hb',Rp,OW,Rq,Rs,p1,p2,p3,p4,p5,p6,p7,p8⟩:=hR j hj;cases e';generalize (rs[i]?.getD ([],[])).1 = L1 at *;generalize (rs[i]?.getD ([],[])).2 = R1 at *;generalize (rs[j]?.getD ([],[])).1 = L2 at *;generalize (rs[j]?.getD ([],[])).2 = R2 at *;have hone:decide (0≤(i:Int)∧(i:Int) < (rs.length:Int)) = true:=by simp;omega
 have SY:decide (0≤(j:Int)∧(j:Int) < (rs.length:Int)) = true:=by simp;omega
 have VC:=hid (fun W=>kS (some ⟨b,off,none⟩) rs.length cap (i:Int) W);have Hh2:=hid (fun W=>kS (some ⟨b,off,none⟩) rs.length cap (j:Int) W);rw [hone] at VC;rw [SY] at Hh2;have HW2:=hid hW2;have nH:=hid hall;clear hW2 hr hR hone SY hall;go_enter Tryz.func53,Tryz.ntmps53;go_wp2_with fail;rw [HW2.out];refine C1.out.mono ?_;rintro e w1 ⟨rfl,b1⟩;have B1:=hB2.trans (b1.mono hB2.size);have hsz1:=b1.size;have Xu:Boxed w1 w.heap.size 3 (.int .i64 (i:Int)):=(b1.block _ bi.lt).trans bi;have Xv:Boxed w1 (w.heap.size+1) 3 (.int .i64 (j:Int)):=(b1.block _ bj.lt).trans bj;have ci:=Xu.cell;have cj:=Xv.cell;clear C1;go_wp2_with fail;refine (VC.out w1).mono ?_;rintro e w1 ⟨rfl,rfl⟩;go_wp2_with fail;refine (Hh2.out w1).mono ?_;rintro e w1 ⟨rfl,rfl⟩;have d1:=(B1.cell (p:=⟨b,off+i * 2,none⟩) hb).trans g1;have d2:=(B1.cell (p:=⟨b,off+i * 2+1,none⟩) hb).trans g2;have d3:=(B1.cell (p:=⟨b,off+j * 2,none⟩) hb).trans p1;have d4:=(B1.cell (p:=⟨b,off+j * 2+1,none⟩) hb).trans p2;clear VC Hh2;go_wp2_with fail;obtain ⟨W3,hW3⟩:∃ W3,w1.alloc (.cells #[.slice aL L1.length cL] 35) = W3:=⟨_,rfl⟩;rw [hW3];have bl:Boxed W3 w1.heap.size 35 (.slice aL L1.length cL):=by rw [← hW3];exact Boxed.new w1 _ _
 have hB3:Below w1.heap.size w1 W3:=by rw [← hW3];exact (Below.refl _ _).alloc (Nat.le_refl _) _
 have hs3:W3.heap.size = w1.heap.size+1:=by rw [← hW3];simp
 have BN:=B1.trans (hB3.mono B1.size);have hS:Hid (∀ w',Below W3.heap.size W3 w'→w'.cell? ⟨w.heap.size,0,none⟩ = some (.int .i64 (i:Int))∧w'.cell? ⟨w.heap.size+1,0,none⟩ = some (.int .i64 (j:Int))∧w'.cell? ⟨b,off+i * 2,none⟩ = some (.slice aL L1.length cL)∧w'.cell? ⟨b,off+i * 2+1,none⟩ = some (.slice aR R1.length cR)∧w'.cell? ⟨b,off+j * 2,none⟩ = some (.slice Rp L2.length OW)∧w'.cell? ⟨b,off+j * 2+1,none⟩ = some (.slice Rq R2.length Rs)):=fun w' h=>by
  have Qc:=hB3.trans (h.mono hB3.size);exact ⟨(Qc.cell (p:=⟨w.heap.size,0,none⟩) (by show w.heap.size < _;omega)).trans ci,(Qc.cell (p:=⟨w.heap.size+1,0,none⟩) (by show w.heap.size+1 < _;omega)).trans cj,(Qc.cell (p:=⟨b,off+i * 2,none⟩) (by show b < _;omega)).trans d1,(Qc.cell (p:=⟨b,off+i * 2+1,none⟩) (by show b < _;omega)).trans d2,(Qc.cell (p:=⟨b,off+j * 2,none⟩) (by show b < _;omega)).trans d3,(Qc.cell (p:=⟨b,off+j * 2+1,none⟩) (by show b < _;omega)).trans d4⟩
 have HA:=hid (fun X (hX:Below W3.heap.size W3 X)=>PS L2 R2 Rp Rq OW Rs X (by have h:=BN.trans (hX.mono BN.size);exact (p3.below h).mono h.size) (by have h:=BN.trans (hX.mono BN.size);exact (p4.below h).mono h.size) (by have:=Tm.aI OV;omega) (by have:=Tm.aI Iw;omega) (fun k hk=>by have:=Tm.lH OV k hk;omega) (fun k hk=>by have:=Tm.lH Iw k hk;omega));have HLp:=hid (fun X (hX:Below W3.heap.size W3 X) x c y d (hx:Ints X.heap.size X x (Tm.others L2)) (hy:Ints X.heap.size X y (Tm.others R2)) (q1:(Tm.others L2).length≤c) (q2:c≤maxLen)=>SQ L1 R1 (Tm.others L2) (Tm.others R2) aL aR x y cL cR c d (i:Int) (j:Int) w1.heap.size w.heap.size (w.heap.size+1) X eL (by have h:=BN.trans (hX.mono BN.size);exact (g3.below h).mono h.size) (by have h:=BN.trans (hX.mono BN.size);exact (g4.below h).mono h.size) hx hy g5 g6 q1 q2 ((hX.cell (p:=⟨w1.heap.size,0,none⟩) (by show w1.heap.size < _;omega)).trans bl.cell) (hS.out X hX).1 (hS.out X hX).2.1);have hS0:=hS.out _ (Below.refl _ W3);have HBW:=hid BN;clear hW3 hB3 bl ci cj d1 d2 d3 d4 g1 g2 g3 g4 p1 p2 p3 p4 bi bj Xu Xv eL eR OV Iw B1 b1 hB2;go_region_held3 (fun w'=>w'.cell? ⟨w.heap.size,0,none⟩ = some (.int .i64 (i:Int))∧w'.cell? ⟨w.heap.size+1,0,none⟩ = some (.int .i64 (j:Int))∧w'.cell? ⟨b,off+i * 2,none⟩ = some (.slice aL L1.length cL)∧w'.cell? ⟨b,off+i * 2+1,none⟩ = some (.slice aR R1.length cR)∧w'.cell? ⟨b,off+j * 2,none⟩ = some (.slice Rp L2.length OW)∧w'.cell? ⟨b,off+j * 2+1,none⟩ = some (.slice Rq R2.length Rs)) (first | assumption | exact hS0) (first
  | (go_at_call 79;refine (HA.out _ (below_drewN (Below.refl _ W3) 1)).mono ?_;rintro e w4 ⟨v4,u4,rfl,n4,m4,b4⟩;obtain ⟨x4,c4,rfl,i4,r4,s4⟩:=New.ints n4;obtain ⟨y4,d4,rfl,j4,_⟩:=New.ints m4;have B4:Below W3.heap.size W3 w4:=(below_drewN (Below.refl _ W3) 1).trans (b4.mono (by exact Nat.le_refl _));have hS1:=hS.out _ B4)
  | (go_at_call 78;refine (HLp.out _ B4 x4 c4 y4 d4 i4 j4 r4 s4).mono ?_;rintro e w5 ⟨er,ps,v5,hls,rfl,n5,b5⟩;have B5:Below W3.heap.size W3 w5:=B4.trans (b5.mono B4.size);have hS2:=hS.out _ B5))
 all_goals (
  go_wp2;go_ret2
  exact ⟨er,ps,_,afi.out er ps hls,rfl,n5.mono (by have:=HBW.out.size;have:=B4.size;omega),HBW.out.trans (B5.mono HBW.out.size)⟩)
theorem S9 (rs:aH) (i j:Int) (a:Option Addr) (cap:Nat) (w:World) (hR:aJ w.heap.size w a rs) :
 Calls Tryz.prog 53 #[.slice a rs.length cap,.int .i64 i,.int .i64 j] w fun e w'=>SV rs i j w e w':=by
 obtain ⟨W2,hW2⟩:∃ W2,(w.alloc (.cells #[.int .i64 i] 3)).alloc (.cells #[.int .i64 j] 3) = W2:=⟨_,rfl⟩;have hB2:Below w.heap.size w W2:=by rw [← hW2];exact ((Below.refl _ w).alloc (Nat.le_refl _) _).alloc (by simp) _
 have hs2:W2.heap.size = w.heap.size+2:=by rw [← hW2];simp
 have bi:Boxed W2 w.heap.size 3 (.int .i64 i):=by rw [← hW2];exact (Boxed.new w _ _).alloc _
 have bj:Boxed W2 (w.heap.size+1) 3 (.int .i64 j):=by
  rw [← hW2];have h:=Boxed.new (w.alloc (.cells #[.int .i64 i] 3)) 3 (.int .i64 j);rwa [World.size_alloc] at h
 have C1:=hid (gL rs a cap W2 ((hR.below hB2).mono hB2.size));have HW2:=hid hW2;clear hW2;by_cases hr:Tm.aO rs = 0
 ·by_cases hi:0≤i∧i < (rs.length:Int)
  ·by_cases hj:0≤j∧j < (rs.length:Int)
   ·obtain ⟨i',rfl⟩:∃ k:Nat,i = (k:Int):=⟨i.toNat,by omega⟩
    obtain ⟨j',rfl⟩:∃ k:Nat,j = (k:Int):=⟨j.toNat,by omega⟩;exact SX rs i' j' (by omega) (by omega) a cap w hr hR
   ·have hone:decide (0≤i∧i < (rs.length:Int)) = true:=by simpa using hi
    have SY:decide (0≤j∧j < (rs.length:Int)) = false:=by simpa using hj
    have VC:=hid (fun W=>kS a rs.length cap i W);have Hh2:=hid (fun W=>kS a rs.length cap j W);rw [hone] at VC;rw [SY] at Hh2;have FD:Hid (Tm.dS rs i j 5 []):=.inr (.inl ⟨hr,fun h=>hj ⟨h.2.2.1,h.2.2.2⟩,rfl,rfl⟩);rw [hr] at C1;clear hone SY hr hR hi hj;go_enter Tryz.func53,Tryz.ntmps53;go_wp2_with fail;rw [HW2.out];refine C1.out.mono ?_;rintro e w1 ⟨rfl,b1⟩;have B1:=hB2.trans (b1.mono hB2.size);have Xu:Boxed w1 w.heap.size 3 (.int .i64 i):=(b1.block _ bi.lt).trans bi;have Xv:Boxed w1 (w.heap.size+1) 3 (.int .i64 j):=(b1.block _ bj.lt).trans bj;have ci:=Xu.cell;have cj:=Xv.cell;clear C1;go_wp2_with fail;refine (VC.out w1).mono ?_;rintro e w1 ⟨rfl,rfl⟩;go_wp2_with fail;refine (Hh2.out w1).mono ?_;rintro e w1 ⟨rfl,rfl⟩;go_wp2;go_ret2
    exact ⟨5,[],_,FD.out,rfl,fO.nil _ _,B1⟩
  ·have hone:decide (0≤i∧i < (rs.length:Int)) = false:=by simpa using hi
   have VC:=hid (fun W=>kS a rs.length cap i W);rw [hone] at VC;have FD:Hid (Tm.dS rs i j 5 []):=.inr (.inl ⟨hr,fun h=>hi ⟨h.1,h.2.1⟩,rfl,rfl⟩);rw [hr] at C1;clear hone hr hR hi;go_enter Tryz.func53,Tryz.ntmps53;go_wp2_with fail;rw [HW2.out];refine C1.out.mono ?_;rintro e w1 ⟨rfl,b1⟩;have B1:=hB2.trans (b1.mono hB2.size);have Xu:Boxed w1 w.heap.size 3 (.int .i64 i):=(b1.block _ bi.lt).trans bi;have Xv:Boxed w1 (w.heap.size+1) 3 (.int .i64 j):=(b1.block _ bj.lt).trans bj;have ci:=Xu.cell;have cj:=Xv.cell;clear C1;go_wp2_with fail;refine (VC.out w1).mono ?_;rintro e w1 ⟨rfl,rfl⟩;go_wp2;go_ret2
   exact ⟨5,[],_,FD.out,rfl,fO.nil _ _,B1⟩
 ·have FD:Hid (Tm.dS rs i j (Tm.aO rs) []):=.inl ⟨hr,rfl,rfl⟩
  have hn:(Tm.aO rs != 0) = true:=by simpa using hr
  clear hr hR;unfold SV;generalize Tm.aO rs = q at *;go_enter Tryz.func53,Tryz.ntmps53;go_wp2_with fail;rw [HW2.out];refine C1.out.mono ?_;rintro e w1 ⟨rfl,b1⟩;have B1:=hB2.trans (b1.mono hB2.size);have Xu:Boxed w1 w.heap.size 3 (.int .i64 i):=(b1.block _ bi.lt).trans bi;have Xv:Boxed w1 (w.heap.size+1) 3 (.int .i64 j):=(b1.block _ bj.lt).trans bj;have ci:=Xu.cell;have cj:=Xv.cell;clear C1;go_wp2;go_ret2
  exact ⟨_,[],_,FD.out,rfl,fO.nil _ _,B1⟩
theorem CO {ops:Array Oper} {rest:List Oper} {o:Oper} {a:Act} {Q:Exit→Act→World→Prop} (w:World) (hgd:o.guard = none) (s x:Operand)
 (ho:o.op = .call { callee:=.builtin .append,args:=#[s,x],argTypes:=#[24,24] }) (base:Nat) (v:Value) (ps:ah) (hs:a.eval s = v) (hN:fO base w v ps)
 (v2:Value) (qs:ah) (hx:a.eval x = v2) (hM:fO base w v2 qs) (hlen:ps.length+qs.length≤100000) (hbase:base≤w.heap.size)
 (h:∀ v' w',fO base w' v' (ps++qs)→Below base w w'→wpList Tryz.prog ops Q rest (a.put o.dst v') w'):wpList Tryz.prog ops Q (o :: rest) a w:=by
 obtain ⟨i0,hi,hz0,hz1,hz2⟩:=info_parts Tryz.mH;obtain ⟨us,h1,h2⟩:=hN;obtain ⟨qI,m1,m2⟩:=hM;have zi:us.length = ps.length * 2:=h1.1;have VD:qI.length = qs.length * 2:=m1.1;have hcell:∀ u∈qI,∃ a n c,u = .slice a n c:=fun u hu=>by
  obtain ⟨k,hk,e⟩:=List.getElem_of_mem hu;have hk2:k / 2 < qs.length:=by omega
  obtain ⟨y,y',q1,q2,n1,n2⟩:=m2 (k / 2) hk2;rcases Nat.mod_two_eq_zero_or_one k with h0 | h0
  ·rw [show k / 2 * 2 = k by omega,List.getElem?_eq_getElem hk,e] at q1
   cases q1;obtain ⟨_,_,rfl,_⟩:=New.ints n1;exact ⟨_,_,_,rfl⟩
  ·rw [show k / 2 * 2+1 = k by omega,List.getElem?_eq_getElem hk,e] at q2
   cases q2;obtain ⟨_,_,rfl,_⟩:=New.ints n2;exact ⟨_,_,_,rfl⟩
 rcases m1.2 with ⟨rfl,hn⟩ | ⟨g,cap,cur,rfl,hb,hgb,r1,r2,r3⟩
 ·obtain rfl:qs = []:=List.eq_nil_of_length_eq_zero hn
  refine wpList_append_own_none hgd s x 24 ho base 40 i0 2 Tryz.mr hi v ps.length us hs h1 hx (h v w (by rw [List.append_nil];exact ⟨us,h1,h2⟩) (Below.refl _ _))
 ·refine wpList_append_own w hgd s x 24 ho base 40 i0 (.agg #[.slice none 0 0,.slice none 0 0]) 2 48 Tryz.mr hi hz0 hz1 hz2 rfl (by decide) v ps.length us hs h1 ⟨g,0,none⟩ qs.length cap qI hx (by omega)
   (by intro j z hj
       have hjl:j < qs.length * 2:=by
        have:=(List.getElem?_eq_some_iff.1 hj).1
        omega
       rw [Go.WideShapes.add_plain];have:=World.ownsRow.cellAt m1 j hjl
       rw [hj] at this;simpa using this)
   (by intro u hu;obtain ⟨_,_,_,rfl⟩:=hcell u hu;rfl) (by unfold maxLen;omega) (by omega) hbase ?_
  intro v' w' hown hg _;have hkeep:∀ (u':Value) (t':List Int),New base w u' t'→New base w' u' t':=fun u' t' hN'=>World.ownsRow.kept hN' hg (New.SH hN' h1)
  refine h v' w' ⟨us++qI,by simpa using hown,fun j hj=>?_⟩ ((Below.refl base w).grown hg hbase (fun k e=>(World.ownsRow.lt h1 k e).1));by_cases hjl:j < ps.length
  ·obtain ⟨y,y',q1,q2,n1,n2⟩:=h2 j hjl
   rw [List.getElem?_append_left hjl,List.getElem?_append_left (by omega),List.getElem?_append_left (by omega)];exact ⟨y,y',q1,q2,hkeep y _ n1,hkeep y' _ n2⟩
  ·have hj2:j - ps.length < qs.length:=by rw [List.length_append] at hj;omega
   obtain ⟨y,y',q1,q2,n1,n2⟩:=m2 (j - ps.length) hj2;rw [List.getElem?_append_right (by omega),List.getElem?_append_right (by omega),List.getElem?_append_right (by omega),zi];rw [show j * 2 - ps.length * 2 = (j - ps.length) * 2 by omega,show j * 2+1 - ps.length * 2 = (j - ps.length) * 2+1 by omega];exact ⟨y,y',q1,q2,hkeep y _ n1,hkeep y' _ n2⟩
inductive Tm.iE (rs:aH):Nat→Nat→ah→Prop
 | zero:Tm.iE rs 0 0 []
 | next {i j:Nat} {l ps:ah}:Tm.iE rs i j l→j < rs.length→Tm.dS rs (i:Int) (j:Int) 0 ps→Tm.iE rs i (j+1) (l++ps)
 | row {i:Nat} {l:ah}:Tm.iE rs i rs.length l→Tm.iE rs (i+1) 0 l
def Tm.gT (rs:aH) (er:Int) (ps:ah):Prop :=
 (∃ l,Tm.iE rs rs.length 0 l∧((l.length≤40∧er = 0∧ps = l)∨(40 < l.length∧er = 2∧ps = []))) ∨
 (∃ i j l qs,i < rs.length∧j < rs.length∧Tm.iE rs i j l∧Tm.dS rs (i:Int) (j:Int) er qs∧er≠0∧ps = [])
theorem Tm.dS.len {rs:aH} {i j:Nat} {ps:ah} (h:Tm.dS rs (i:Int) (j:Int) 0 ps):rs.length≤8∧ps.length≤30:=by
 rcases h with ⟨h1,h2,_⟩ | ⟨_,_,h2,_⟩ | ⟨h1,a,b,ha,hb,_,_,h3⟩
 ·exact absurd h2.symm h1
 ·omega
 ·obtain ⟨h8,hall⟩:=Tm.di h1
  obtain ⟨eL,_⟩:=Tm.bI (hall a ha);have:=Tm.aI eL
  refine ⟨h8,?_⟩;rcases h3 with ⟨_,h4⟩ | ⟨h4,_⟩
  ·have:=h4.len
   omega
  ·exact absurd rfl h4.1
theorem Tm.iE.len {rs:aH} {i j:Nat} {l:ah} (h:Tm.iE rs i j l):j≤rs.length∧l.length≤30 * (i * rs.length+j):=by
 induction h with
 | zero=>simp
 | next h1 h2 h3 ih =>
  have:=h3.len.2
  rw [List.length_append];refine ⟨h2,?_⟩;have:=ih.2
  rw [Nat.mul_add] at this ⊢;omega
 | row h1 ih =>
  refine ⟨Nat.zero_le _,?_⟩;have:=ih.2
  rw [Nat.add_zero,Nat.add_mul,Nat.one_mul];exact this
theorem J6 (rs:aH) (a:Option Addr) (cap:Nat) (w:World) (hR:aJ w.heap.size w a rs) (hcl:rs.length≤maxLen) :
 Calls Tryz.prog 19 #[.slice a rs.length cap] w fun e w'=>∃ er ps v,Tm.gT rs er ps∧e = .returned (.tuple #[v,.int .i64 er])∧fO w.heap.size w' v ps∧Below w.heap.size w w':=by
 have hcl':(rs.length:Int)≤9223372036854775807:=by unfold maxLen at hcl;omega
 have HR:=hid hR;clear hR hcl;go_enter Tryz.func19,Tryz.ntmps19;go_wp2;go_loopw [4,11] (fun v x wr=>∃ (i:Nat) (l:ah),i≤rs.length∧x = .int .i64 (i:Int)∧Hid (Tm.iE rs i 0 l)∧Hid (fO w.heap.size wr v l)∧Below w.heap.size w wr) (fun _ x _=>rs.length - (intOf x).toNat)
 case atStart=>exact ⟨0,[],Nat.zero_le _,rfl,.zero,fO.nil _ _,Below.refl _ _⟩
 case round =>
  obtain ⟨i,l,hi,rfl,hA,hN,hB⟩:=hrel;obtain ⟨va,vc,rfl⟩:=hN.out.slice;by_cases hlt:i < rs.length
  ·have hlt':(i:Int) < (rs.length:Int):=by omega
   go_wp2;go_loopw [4,16] (fun v x wq=>∃ (j:Nat) (l:ah),j≤rs.length∧x = .int .i64 (j:Int)∧Hid (Tm.iE rs i j l)∧Hid (fO w.heap.size wq v l)∧Below w.heap.size w wq) (fun _ x _=>rs.length - (intOf x).toNat)
   case atStart=>exact ⟨0,l,Nat.zero_le _,rfl,hA,hN,hB⟩
   case round =>
    obtain ⟨j,l,hj,rfl,hA,hN,hB⟩:=hrel;obtain ⟨va,vc,rfl⟩:=hN.out.slice;by_cases hlj:j < rs.length
    ·have akO:(j:Int) < (rs.length:Int):=by omega
     have hO:=hid (S9 rs (i:Int) (j:Int) a cap wr ((HR.out.below hB).mono hB.size));go_wp2_with fail;refine hO.out.mono ?_;rintro e w1 ⟨er,ps,v1,qg,rfl,n1,b1⟩;have B1:=hB.trans (b1.mono hB.size);obtain ⟨xa,xc,rfl⟩:=n1.slice;clear hO;by_cases he:er = 0
     ·subst he
      have N0:=hid (hN.out.below b1);have N1:=hid (n1.mono hB.size);have hA':=hid (Tm.iE.next hA.out hlj qg);have hl1:=hA.out.len.2;obtain ⟨h8,hl2⟩:=qg.len;have hmul:i * rs.length≤8 * 8:=Nat.mul_le_mul (by omega) h8;have hle:l.length+ps.length≤100000:=by omega
      clear hl1 hmul h8 hl2 n1 qg;go_wp2_with (at_builtin;go_loud (refine CO _ rfl _ _ rfl w.heap.size _ l rfl N0.out _ ps rfl N1.out hle B1.size ?_);intro v' w2 eH hB2;obtain ⟨a2,c2,rfl⟩:=eH.slice)
      go_roundw
      case rel=>exact ⟨j+1,_,by omega,by go_num,hA',hid (by simpa only [List.length_append] using eH),B1.trans hB2⟩
      case measure=>simp [intOf];omega
     ·have hne:(er != 0) = true:=by simpa using he
      have Hs:Hid (Tm.gT rs er []):=.inr ⟨i,j,l,ps,hlt,hlj,hA.out,qg,he,rfl⟩;clear he qg;go_wp2;go_ret2
      exact ⟨er,[],_,Hs.out,rfl,fO.nil _ _,B1⟩
    ·obtain rfl:j = rs.length:=by omega
     go_wp2;go_roundw
     case rel=>exact ⟨i+1,l,by omega,by go_num,hid (.row hA.out),hN,hB⟩
     case measure=>simp [intOf];omega
  ·obtain rfl:i = rs.length:=by omega
   by_cases Di:40 < l.length
   ·have LW:(40:Int) < (l.length:Int):=by omega
    have Hs:Hid (Tm.gT rs 2 []):=.inl ⟨l,hA.out,.inr ⟨Di,rfl,rfl⟩⟩;clear Di;go_wp2;go_ret2
    exact ⟨2,[],_,Hs.out,rfl,fO.nil _ _,hB⟩
   ·have LW:decide ((40:Int) < (l.length:Int)) = false:=by simp;omega
    have Hs:Hid (Tm.gT rs 0 l):=.inl ⟨l,hA.out,.inl ⟨by omega,rfl,rfl⟩⟩;clear Di;go_wp2;go_ret2
    exact ⟨0,l,_,Hs.out,rfl,hN.out,hB⟩
end Go.Proofs.YtglohanbpjaieaaGreat
