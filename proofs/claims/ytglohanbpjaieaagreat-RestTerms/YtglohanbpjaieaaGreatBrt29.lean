/-
  Parts of the proof: Met12, PRef0, PRef1, PRef2, PRef3.
-/
import Derived.Test.YtglohanbpjaieaaGreatBrt28
import Derived.Test.YtglohanbpjaieaaGreatBrt15
import Derived.Test.YtglohanbpjaieaaGreatBrt14
import Derived.Test.YtglohanbpjaieaaGreatBrt25
import Derived.Deep.RegionHeld3
import Derived.Deep.AppendLies
import Derived.Test.YtglohanbpjaieaaGreatBrt19
import Derived.Test.YtglohanbpjaieaaGreatBrt21
namespace Go.Proofs.YtglohanbpjaieaaGreat
open Go.Proofs Go.RowKit Go.Shelf Go.Maps
theorem Tm.fit_pair (a b:List Int):Tm.fitErr a b = Tm.pairErr a b:=by
 unfold Tm.pairErr
 by_cases h:Tm.err a = 0
 ·rw [if_pos h]
  simp only [Tm.fitErr,Tm.firstErr,h,if_true]
  by_cases h2:Tm.err b = 0 <;> simp [h2]
 ·rw [if_neg h]
  simp [Tm.fitErr,Tm.firstErr,h]
theorem mgu_nil:Wb.Mgu [] (fun v=>[v]):=by
 refine ⟨fun s hs=>?_,fun v h1 h2 s hs=>?_,fun j hj=>by simp at hj,fun θ _ _ v _ h2=>?_,fun v u _ _ e _=>?_⟩
 ·show Tm.run [s] 1 = 1
  rw [show (1:Nat) = 0+1 from rfl,Tm.run_cons,Wb.room_var hs,Tm.run_zero]
 ·simp only [List.mem_cons,List.not_mem_nil,or_false] at hs
  omega
 ·show θ v = Wb.App θ [v]
  rw [Wb.App_cons,if_pos h2,Wb.App_nil,List.append_nil]
 ·simp only [List.cons.injEq,and_true] at e
  omega
set_option maxRecDepth 100000 in
set_option maxHeartbeats 1000000 in
theorem met_nil (a:Option Addr) (cap:Nat) (w:World):Calls Tryz.prog 54 #[.slice a 0 cap] w fun e w'=>MetAns [] w w' e:=by
 have hB0:=hid ((Below.refl w.heap.size w).alloc (Nat.le_refl _) (.cells #[.slice none 0 0,.slice none 0 0] 115))
 have hcl:=hid (fun W (hW:W = w.alloc (.cells #[.slice none 0 0,.slice none 0 0] 115))=>tclose_nil (x:=w.heap.size) (cN:=0) W (by rw [hW];exact (cell_at (World.alloc_heap_new w _) 0).trans rfl))
 have hc0:(w.alloc (.cells #[.slice none 0 0,.slice none 0 0] 115)).cell? ⟨w.heap.size,0,none⟩ = some (.slice none 0 0):=(cell_at (World.alloc_heap_new w _) 0).trans rfl
 go_enter Tryz.func54,Tryz.ntmps54
 go_wp2
 refine wp_loop_rounds 1 ?_
 rw [rounds_succ]
 go_wp2_with fail
 refine (hcl.out _ rfl).mono ?_
 rintro e w1 ⟨rfl,rfl⟩
 clear hcl
 go_wp2
 refine wp_loop_rounds 1 ?_
 rw [rounds_succ]
 go_wp2_with (go_at_call 85;refine (noneOf_any _).mono ?_;rintro e w4 ⟨v,rfl,hN4,hB4⟩;have hlen:(Tm.noneL 8).length = 8:=Tm.noneL_length 8;obtain ⟨g4,c4,rfl⟩:∃ g4 c4,v = .slice (some ⟨g4,0,none⟩) 8 c4:=(by obtain ⟨us,h1,_⟩:=hN4;rw [hlen] at h1;exact ownsRow_succ h1))
 have hc4:w4.cell? ⟨w.heap.size,0,none⟩ = some (.slice none 0 0):=(hB4.cell (p:=⟨w.heap.size,0,none⟩) (by simp)).trans hc0
 refine wp_loop_rounds 1 ?_
 rw [rounds_succ]
 go_wp2
 go_ret3
 exact ⟨hB0.out.trans (hB4.mono hB0.out.size),0,true,Tm.noneL 8,_,.inr (.inr (.inl ⟨rfl,_,mgu_nil,fun i hi=>by simp,rfl,rfl,rfl⟩)),rfl,hN4.mono hB0.out.size⟩
theorem met_any (ps:PairL) (a:Option Addr) (cap:Nat) (w:World) (hP:RulesAt w.heap.size w a ps) (h40:ps.length≤40) (hok:∀ k,k < ps.length→Tm.err (ps[k]?.getD ([],[])).1 = 0∧Tm.err (ps[k]?.getD ([],[])).2 = 0) :
 Calls Tryz.prog 54 #[.slice a ps.length cap] w fun e w'=>MetAns ps w w' e:=by
 by_cases h0:0 < ps.length
 ·exact met_some ps a cap w hP h40 h0 hok
 ·obtain rfl:ps = []:=List.eq_nil_of_length_eq_zero (by omega)
  exact met_nil a cap w
theorem met_one (a b:List Int) (aa ab:Option Addr) (ca cb B:Nat) (W:World) (blk:W.heap[B]? = some (.cells #[.slice aa a.length ca,.slice ab b.length cb] 40)) (hA:Ints W.heap.size W aa a) (hB:Ints W.heap.size W ab b) (ha1:a.length≤ca) (ha2:ca≤maxLen) (hb1:b.length≤cb) (hb2:cb≤maxLen) (ea:Tm.err a = 0) (eb:Tm.err b = 0) :
 Calls Tryz.prog 54 #[.slice (some ⟨B,0,none⟩) 1 1] W fun e w'=>MetAns [(a,b)] W w' e:=by
 refine met_any [(a,b)] (some ⟨B,0,none⟩) 1 W (fun k hk=>?_) (by simp) (fun k hk=>?_)
 ·obtain rfl:k = 0:=by simp at hk;omega
  exact ⟨B,0,rfl,(Array.getElem?_eq_some_iff.1 blk).1,aa,ca,ab,cb,(cell_at blk 0).trans rfl,(cell_at blk 1).trans rfl,hA,hB,ha1,ha2,hb1,hb2⟩
 ·obtain rfl:k = 0:=by simp at hk;omega
  exact ⟨ea,eb⟩
set_option maxRecDepth 100000 in
set_option maxHeartbeats 1000000 in
theorem MeetOf_any (a b:List Int) (aa ab:Option Addr) (ca cb:Nat) (w:World) (hA:Ints w.heap.size w aa a) (hB:Ints w.heap.size w ab b) (ha1:a.length≤ca) (ha2:ca≤maxLen) (hb1:b.length≤cb) (hb2:cb≤maxLen) :
 Calls Tryz.prog 21 #[.slice aa a.length ca,.slice ab b.length cb] w fun e w'=>MetAns [(a,b)] w w' e:=by
 have hE:=twoErrors_any a b aa ab ca cb w hA hB
 rw [Tm.fit_pair] at hE
 by_cases he:Tm.pairErr a b = 0
 ·obtain ⟨ea,eb⟩:=Tm.pairErr_zero.1 he
  rw [he] at hE
  have hBl:Below w.heap.size w (w.alloc (.cells #[.slice aa a.length ca,.slice ab b.length cb] 40)):=(Below.refl _ w).alloc (Nat.le_refl _) _
  have hM:=hid (met_one a b aa ab ca cb w.heap.size _ (World.alloc_heap_new w _) ((hA.below hBl).mono hBl.size) ((hB.below hBl).mono hBl.size) ha1 ha2 hb1 hb2 ea eb)
  have HB:=hid hBl
  clear hA hB hBl he ea eb
  go_enter Tryz.func21,Tryz.ntmps21
  go_wp2_with (go_at_call 39;refine hE.mono ?_;clear hE;rintro e w ⟨rfl,rfl⟩)
  refine hM.out.mono ?_
  rintro e w2 ⟨hB2,er,is,val,v,hs,rfl,hS⟩
  have Hs:=hid hs
  have HS:=hid hS
  obtain ⟨x,c,rfl,_⟩:=NewS.subs hS
  clear hM hs hS
  go_wp2
  go_ret3
  exact ⟨HB.out.trans (hB2.mono HB.out.size),er,is,val,_,Hs.out,rfl,HS.out.mono HB.out.size⟩
 ·have hne:(Tm.pairErr a b != 0) = true:=by simpa using he
  have hs:Hid (Tm.MeetSays [(a,b)] (Tm.pairErr a b) false []):=.inl ⟨by rw [Tm.firstPair_one];exact he,by rw [Tm.firstPair_one],rfl,rfl⟩
  clear he hA hB
  generalize Tm.pairErr a b = q at *
  go_enter Tryz.func21,Tryz.ntmps21
  go_wp2_with (go_at_call 39;refine hE.mono ?_;clear hE;rintro e w ⟨rfl,rfl⟩)
  go_ret3
  exact ⟨Below.refl _ _,q,false,[],_,hs.out,rfl,NewS.nil _ _⟩
theorem Tm.applied_more {ss:List (List Int)} (h:Tm.subErr ss = 0):∀ t:List Int,(∀ s∈t,-8≤s)→t.length≤(Tm.applied ss t).length:=by
 intro t
 induction t with
 | nil=>intro _;exact Nat.zero_le _
 | cons s l ih =>
  intro h8
  rw [Tm.applied_cons,List.length_append,List.length_cons]
  have h1:=ih fun q hq=>h8 q (by simp [hq])
  have h2:1≤(Tm.piece ss s).length:=by
   unfold Tm.piece
   by_cases hs:s < 0
   ·rw [if_pos hs]
    obtain ⟨hl,hf⟩:=Tm.subErr_ok h
    have:=h8 s (by simp)
    have:=Tm.err_pos (Tm.firstErr_all hf (-1 - s).toNat (by omega))
    omega
   ·rw [if_neg hs];simp
  omega
theorem Tm.put_signs {zs us:List Int} {k:Nat} {s:Int} (h:s∈Tm.put zs k us):s∈zs∨s∈us:=by
 unfold Tm.put at h
 rcases List.mem_append.1 h with h | h
 ·rcases List.mem_append.1 h with h | h
  ·exact .inl (List.mem_of_mem_take h)
  ·exact .inr h
 ·exact .inl (List.mem_of_mem_drop h)
theorem Tm.known_mem {t:List Int} (h:Tm.err t = 0) {s:Int} (hs:s∈t):-8≤s∧s < 6:=by
 have h2:=Tm.err_all h
 rw [List.all_eq_true] at h2
 have:=h2 s hs
 exact ⟨Tm.known_ge this,Tm.known_lt this⟩
theorem Tm.prt_ref {val:List (List Int)} {L1 R1 R2:List Int} {m:Nat} (hs:Tm.subErr val = 0) (e1:Tm.err L1 = 0) (eR:Tm.err R1 = 0) (e2:Tm.err R2 = 0) (hm:m < L1.length) :
 ((Tm.applied val (Tm.put L1 m R2)).length≤30∧(Tm.applied val R1).length≤30∧Tm.prtErr val L1 R1 (m:Int) R2 = 0∧(Tm.prtVal val L1 R1 (m:Int) R2).1.length = (Tm.applied val (Tm.put L1 m R2)).length∧(Tm.prtVal val L1 R1 (m:Int) R2).1++(Tm.prtVal val L1 R1 (m:Int) R2).2 = Tm.plain (Tm.applied val (Tm.put L1 m R2)++Tm.applied val R1)) ∨
 ((30 < (Tm.applied val (Tm.put L1 m R2)).length∨30 < (Tm.applied val R1).length)∧Tm.prtErr val L1 R1 (m:Int) R2 = 2):=by
 have hin:insideB (m:Int) 0 ((L1.length:Int) - 1) = true:=by rw [insideB_iff];omega
 have hge:=Tm.applied_more hs (Tm.put L1 m R2) fun s h=>by
  rcases Tm.put_signs h with h | h
  ·exact (Tm.known_mem e1 h).1
  ·exact (Tm.known_mem e2 h).1
 have hpe:Tm.putErr L1 (m:Int) R2 = if 30 < (Tm.put L1 m R2).length then 2 else 0:=by
  unfold Tm.putErr
  rw [if_pos e1,if_pos e2,if_pos hin]
  rfl
 by_cases h1:30 < (Tm.put L1 m R2).length
 ·rw [if_pos h1] at hpe
  refine .inr ⟨.inl (by omega),?_⟩
  unfold Tm.prtErr
  rw [if_neg (by rw [hpe];decide),hpe]
 ·rw [if_neg h1] at hpe
  have hpv:Tm.putVal L1 (m:Int) R2 = Tm.put L1 m R2:=by unfold Tm.putVal;rw [if_pos hpe];rfl
  have ep:=Tm.put_err e1 e2 hm (by omega)
  have hae:Tm.applyErr val (Tm.put L1 m R2) = if 30 < (Tm.applied val (Tm.put L1 m R2)).length then 2 else 0:=by unfold Tm.applyErr;rw [if_pos hs,if_pos ep]
  have hbe:Tm.applyErr val R1 = if 30 < (Tm.applied val R1).length then 2 else 0:=by unfold Tm.applyErr;rw [if_pos hs,if_pos eR]
  by_cases h2:30 < (Tm.applied val (Tm.put L1 m R2)).length
  ·rw [if_pos h2] at hae
   refine .inr ⟨.inl h2,?_⟩
   unfold Tm.prtErr
   rw [if_pos hpe,hpv,if_neg (by rw [hae];decide),hae]
  ·rw [if_neg h2] at hae
   by_cases h3:30 < (Tm.applied val R1).length
   ·rw [if_pos h3] at hbe
    refine .inr ⟨.inr h3,?_⟩
    unfold Tm.prtErr
    rw [if_pos hpe,hpv,if_pos hae,hbe]
   ·rw [if_neg h3] at hbe
    have hz:Tm.prtErr val L1 R1 (m:Int) R2 = 0:=by
     unfold Tm.prtErr
     rw [if_pos hpe,hpv,if_pos hae,hbe]
    have v1:Tm.applyVal val (Tm.put L1 m R2) = Tm.applied val (Tm.put L1 m R2):=by unfold Tm.applyVal;rw [if_pos hae]
    have v2:Tm.applyVal val R1 = Tm.applied val R1:=by unfold Tm.applyVal;rw [if_pos hbe]
    have hv:Tm.prtVal val L1 R1 (m:Int) R2 = (Tm.plain (Tm.applied val (Tm.put L1 m R2)),Tm.plain2 (Tm.applied val (Tm.put L1 m R2)) (Tm.applied val R1)):=by
     unfold Tm.prtVal
     rw [if_pos hz,hpv,v1,v2]
    refine .inl ⟨by omega,by omega,hz,?_,?_⟩
    ·rw [hv];exact Tm.plainTo_length _ _ _
    ·rw [hv];exact Sn.both _ _
def IntRow (base:Nat) (W:World) (a:Option Addr) (zs:List Int):Prop:=∀ j,j < zs.length→∃ b off,a = some ⟨b,off,none⟩∧base≤b∧(∃ cs p,W.heap[b]? = some (.cells cs 3 p))∧W.cell? ⟨b,off+j,none⟩ = some (.int .i64 (zs[j]?.getD 0))
theorem IntRow.ints {base:Nat} {W:World} {a:Option Addr} {zs:List Int} (h:IntRow base W a zs):Ints W.heap.size W a zs:=fun j hj=>by
 obtain ⟨b,off,e,_,⟨cs,p,hb⟩,hc⟩:=h j hj
 exact ⟨b,off,e,(Array.getElem?_eq_some_iff.1 hb).1,hc⟩
theorem IntRow.of {base:Nat} {W:World} {v:Value} {zs:List Int} (h:New base W v zs):∃ a c,v = .slice a zs.length c∧IntRow base W a zs∧zs.length≤c∧c≤maxLen:=by
 rcases h.2 with ⟨rfl,hn⟩ | ⟨g,cap,cur,rfl,hb,hg,h1,h2,h3,h4⟩
 ·exact ⟨none,0,by rw [hn],fun j hj=>by omega,by omega,by unfold maxLen;omega⟩
 ·refine ⟨_,cap,rfl,fun j hj=>⟨g,0,rfl,hb,⟨cur,_,hg⟩,?_⟩,h1,h2⟩
  have:=World.ownsRow.cellAt (xs:=zs.map (Value.int .i64)) h j (by omega)
  rw [Nat.zero_add,this]
  simp [hj]
theorem IntRow.keep {base:Nat} {W W':World} {a:Option Addr} {zs:List Int} (h:IntRow base W a zs) (hk:∀ b,base≤b→(∃ cs p,W.heap[b]? = some (.cells cs 3 p))→W'.heap[b]? = W.heap[b]?):IntRow base W' a zs:=fun j hj=>by
 obtain ⟨b,off,e,hb,hc,hcell⟩:=h j hj
 refine ⟨b,off,e,hb,?_,(World.cell?_of_block (a:=⟨b,off+j,none⟩) (hk b hb hc)).trans hcell⟩
 obtain ⟨cs,p,hc'⟩:=hc
 exact ⟨cs,p,(hk b hb ⟨cs,p,hc'⟩).trans hc'⟩
theorem IntRow.below {base:Nat} {W W':World} {a:Option Addr} {zs:List Int} (h:IntRow base W a zs) (hB:Below W.heap.size W W'):IntRow base W' a zs:=h.keep fun b _ ⟨_,_,hc⟩=>hB.block b (Array.getElem?_eq_some_iff.1 hc).1
theorem IntRow.mono {base base':Nat} {W:World} {a:Option Addr} {zs:List Int} (h:IntRow base W a zs) (hb:base'≤base):IntRow base' W a zs:=fun j hj=>by
 obtain ⟨b,off,e,h1,r⟩:=h j hj
 exact ⟨b,off,e,by omega,r⟩
def NewQ (base:Nat) (W:World) (v:Value) (ps:PairL):Prop :=
 ∃ us:List Value,W.ownsRow base 40 2 v ps.length us∧∀ j,j < ps.length→∃ aL cL aR cR,us[j * 2]? = some (.slice aL (ps[j]?.getD ([],[])).1.length cL)∧us[j * 2+1]? = some (.slice aR (ps[j]?.getD ([],[])).2.length cR)∧IntRow base W aL (ps[j]?.getD ([],[])).1∧IntRow base W aR (ps[j]?.getD ([],[])).2∧(ps[j]?.getD ([],[])).1.length≤cL∧cL≤maxLen∧(ps[j]?.getD ([],[])).2.length≤cR∧cR≤maxLen
theorem NewQ.nil (base:Nat) (W:World):NewQ base W (.slice none 0 0) []:=⟨[],World.ownsRow_nil _ _ _ _,fun j hj=>by simp at hj⟩
theorem NewQ.below {base:Nat} {W W':World} {v:Value} {ps:PairL} (h:NewQ base W v ps) (hB:Below W.heap.size W W'):NewQ base W' v ps:=by
 obtain ⟨us,h1,h2⟩:=h
 refine ⟨us,ownsRow_keep h1 fun q hq=>hB.block q (World.ownsRow.lt h1 q hq).2,fun j hj=>?_⟩
 obtain ⟨aL,cL,aR,cR,a,b,c,d,r⟩:=h2 j hj
 exact ⟨aL,cL,aR,cR,a,b,c.below hB,d.below hB,r⟩
theorem NewQ.mono {base base':Nat} {W:World} {v:Value} {ps:PairL} (h:NewQ base W v ps) (hb:base'≤base):NewQ base' W v ps:=by
 obtain ⟨us,h1,h2⟩:=h
 refine ⟨us,⟨h1.1,h1.2.elim .inl (fun ⟨g,cap,cur,e1,e2,e3⟩=>.inr ⟨g,cap,cur,e1,Nat.le_trans hb e2,e3⟩)⟩,fun j hj=>?_⟩
 obtain ⟨aL,cL,aR,cR,a,b,c,d,r⟩:=h2 j hj
 exact ⟨aL,cL,aR,cR,a,b,c.mono hb,d.mono hb,r⟩
theorem NewQ.at {base:Nat} {W:World} {v:Value} {ps:PairL} (h:NewQ base W v ps):∃ a cap,v = .slice a ps.length cap∧RulesAt W.heap.size W a ps∧ps.length≤cap∧cap≤maxLen:=by
 obtain ⟨us,h1,h2⟩:=h
 have hl:us.length = ps.length * 2:=h1.1
 rcases h1.2 with ⟨rfl,hn⟩ | ⟨g,cap,cur,rfl,hb,hgb,q1,q2,_⟩
 ·refine ⟨none,0,by rw [hn],fun k hk=>by omega,by omega,by unfold maxLen;omega⟩
 ·refine ⟨_,cap,rfl,fun j hj=>?_,q1,q2⟩
  obtain ⟨a1,c1,a2,c2,p1,p2,i1,i2,m1,m1',m2,m2'⟩:=h2 j hj
  have cc:=fun k hk=>World.ownsRow.cellAt h1 k hk
  exact ⟨g,0,rfl,(Array.getElem?_eq_some_iff.1 hgb).1,a1,c1,a2,c2,by rw [Nat.zero_add,cc _ (by omega),p1],by rw [Nat.zero_add,cc _ (by omega),p2],i1.ints,i2.ints,m1,m1',m2,m2'⟩
theorem NewQ.snoc {base:Nat} {w w':World} {v v':Value} {ps:PairL} {aL aR:Option Addr} {cL cR:Nat} {t t2:List Int} (hg:w.grownBy w' v.ownBlock) (h1:IntRow base w aL t) (h2:IntRow base w aR t2) (c1:t.length≤cL) (c2:cL≤maxLen) (c3:t2.length≤cR) (c4:cR≤maxLen)
 {us:List Value} (hus:w.ownsRow base 40 2 v ps.length us) (hcl:∀ j,j < ps.length→∃ aL cL aR cR,us[j * 2]? = some (.slice aL (ps[j]?.getD ([],[])).1.length cL)∧us[j * 2+1]? = some (.slice aR (ps[j]?.getD ([],[])).2.length cR)∧IntRow base w aL (ps[j]?.getD ([],[])).1∧IntRow base w aR (ps[j]?.getD ([],[])).2∧(ps[j]?.getD ([],[])).1.length≤cL∧cL≤maxLen∧(ps[j]?.getD ([],[])).2.length≤cR∧cR≤maxLen)
 (hown:w'.ownsRow base 40 2 v' (ps.length+1) (us++[.slice aL t.length cL,.slice aR t2.length cR])):NewQ base w' v' (ps++[(t,t2)]):=by
 have hul:us.length = ps.length * 2:=hus.1
 have hk:∀ b,base≤b→(∃ cs p,w.heap[b]? = some (.cells cs 3 p))→w'.heap[b]? = w.heap[b]?:=fun b _ ⟨cs,p,hb⟩=>hg.block b (Array.getElem?_eq_some_iff.1 hb).1 fun e=>by
  obtain ⟨cur,h⟩:=row_type hus e.symm
  rw [hb] at h
  simp only [Option.some.injEq,Obj.cells.injEq] at h
  exact absurd h.2.1 (by decide)
 refine ⟨us++[.slice aL t.length cL,.slice aR t2.length cR],by simpa using hown,fun j hj=>?_⟩
 by_cases hjl:j < ps.length
 ·obtain ⟨y,yc,y',yc',q1,q2,n1,n2,r⟩:=hcl j hjl
  rw [List.getElem?_append_left hjl,List.getElem?_append_left (by omega),List.getElem?_append_left (by omega)]
  exact ⟨y,yc,y',yc',q1,q2,n1.keep hk,n2.keep hk,r⟩
 ·have hje:j = ps.length:=by simp at hj;omega
  subst hje
  rw [List.getElem?_append_right (Nat.le_refl _),List.getElem?_append_right (by omega),List.getElem?_append_right (by omega),hul]
  exact ⟨aL,cL,aR,cR,by simp,by simp,by simpa using h1.keep hk,by simpa using h2.keep hk,by simpa using c1,c2,by simpa using c3,c4⟩
theorem Tm.oth_get {t:List Int} {k:Nat} (h:k < t.length):(Tm.others (t.take k)++t.drop k)[k]?.getD 0 = t[k]?.getD 0:=by
 have hl:(Tm.others (t.take k)).length = k:=by rw [Tm.others_length,List.length_take];omega
 rw [List.getElem?_append_right (by omega),hl,Nat.sub_self,List.getElem?_drop,Nat.add_zero]
theorem Tm.oth_set {t:List Int} {k:Nat} (h:k < t.length):(Tm.others (t.take k)++t.drop k).set k (Tm.oth (t[k]?.getD 0)) = Tm.others (t.take (k+1))++t.drop (k+1):=by
 have hl:(Tm.others (t.take k)).length = k:=by rw [Tm.others_length,List.length_take];omega
 rw [List.set_append_right _ _ (by omega),hl,Nat.sub_self,Tm.others_snoc h,List.drop_eq_getElem_cons h,List.set_cons_zero,List.append_assoc]
 rfl
theorem Tm.oth_same {t:List Int} {k:Nat} (h:k < t.length) (hs:0≤t[k]?.getD 0):Tm.others (t.take (k+1))++t.drop (k+1) = Tm.others (t.take k)++t.drop k:=by
 have ho:Tm.oth (t[k]?.getD 0) = t[k]?.getD 0:=by unfold Tm.oth;rw [if_neg (by omega)]
 rw [Tm.others_snoc h,ho,List.drop_eq_getElem_cons h,List.append_assoc,List.getElem?_eq_getElem h]
 rfl
theorem Tm.oth_len (t:List Int) (k:Nat) (h:k≤t.length):(Tm.others (t.take k)++t.drop k).length = t.length:=by
 rw [List.length_append,Tm.others_length,List.length_take,List.length_drop]
 omega
set_option maxRecDepth 100000 in
set_option maxHeartbeats 1000000 in
theorem refothers_any (t:List Int) (at':Option Addr) (ct:Nat) (w:World) (ht:t.length≤30) (h0:0 < t.length) (h8:∀ k,k < t.length→-100≤t[k]?.getD 0) (hT:Ints w.heap.size w at' t) :
 Calls Tryz.prog 115 #[.slice at' t.length ct] w fun e w'=>∃ v,e = .returned v∧New w.heap.size w' v (Tm.others t)∧Below w.heap.size w w':=by
 have hlen:(t.length:Int)≤30:=by omega
 obtain ⟨b,off,rfl,hb,hc⟩:=hT.at h0
 have hl:New w.heap.size (w.alloc (.cells #[] 3)) (.slice (some ⟨w.heap.size,0,none⟩) 0 0) []:=New.lit w.heap.size w [] (Nat.le_refl _) (by unfold maxLen;simp)
 have hB0:Below w.heap.size w (w.alloc (.cells #[] 3)):=(Below.refl _ _).alloc (Nat.le_refl _) _
 have HT:=hid hT
 have H8:=hid h8
 clear hT hc h8
 go_enter Tryz.func115,Tryz.ntmps115
 go_wp2_with (at_builtin;go_loud (refine wp_append_ints _ rfl _ _ rfl w.heap.size _ [] rfl hl _ t ct rfl (fun e=>by cases e) ((HT.out.below hB0).mono hB0.size) (by simp;omega) hB0.size ?_);intro v1 W1 hN1 hB1;obtain ⟨g,c,rfl,_⟩:=New.at0 hN1 (by simpa using h0))
 have hB2:=hB0.trans hB1
 clear hB0 hB1 hl
 simp only [List.nil_append] at *
 have hgl:=hN1.own_lt
 go_loopw [4] (fun i wr=>∃ k:Nat,k≤t.length∧i = .int .i64 (k:Int)∧Hid (New w.heap.size wr (.slice (some ⟨g,0,none⟩) t.length c) (Tm.others (t.take k)++t.drop k))∧Hid (Below w.heap.size w wr)) (fun i _=>t.length - (intOf i).toNat)
 case atStart=>exact ⟨0,Nat.zero_le _,rfl,by simpa [Tm.others,Hid] using hN1,hB2⟩
 case round =>
  obtain ⟨k,hk,rfl,hNk,hBk⟩:=hrel
  by_cases hlt:k < t.length
  ·have hlt':(k:Int) < (t.length:Int):=by omega
   obtain ⟨hcs,hfs⟩:=New.atG hNk.out (Tm.oth_len t k hk).symm
   have hck:=hcs k hlt
   have hfk:=hfs k
   rw [Tm.oth_get hlt] at hck
   have h8k:=H8.out k hlt
   clear hcs hfs
   by_cases hs:t[k]?.getD 0 < 0
   ·have hst:=hid (Tm.oth_set hlt)
    have ho:Hid (Tm.oth (t[k]?.getD 0) = t[k]?.getD 0 - 4):=by show _ = _;unfold Tm.oth;rw [if_pos hs]
    generalize t[k]?.getD 0 = s at *
    go_wp2
    go_roundw
    case rel =>
     refine ⟨k+1,by omega,by go_num,?_,hBk.out.setCell (p:=⟨g,k,none⟩) hgl.1 _⟩
     have h:=hNk.out.set (Tm.oth_len t k hk).symm k (s - 4)
     rw [← ho.out,hst.out,ho.out] at h
     exact h
    case measure=>simp [intOf];omega
   ·have hs':decide (t[k]?.getD 0 < 0) = false:=by simpa using hs
    have hst:=hid (Tm.oth_same hlt (by omega))
    clear hs
    generalize t[k]?.getD 0 = s at *
    go_wp2
    go_roundw
    case rel=>exact ⟨k+1,by omega,by go_num,by rw [hst.out];exact hNk,hBk⟩
    case measure=>simp [intOf];omega
  ·obtain rfl:k = t.length:=by omega
   have h:=hNk.out
   rw [List.take_length,List.drop_length,List.append_nil] at h
   have H:=hid h
   clear h
   go_wp2
   go_ret
   exact ⟨_,rfl,H.out,hBk.out⟩
theorem IntRow.drop {base:Nat} {W:World} {b off:Nat} {zs:List Int} (h:IntRow base W (some ⟨b,off,none⟩) zs) (k:Nat):IntRow base W (some ⟨b,off+k,none⟩) (zs.drop k):=fun j hj=>by
 rw [List.length_drop] at hj
 obtain ⟨b',off',e,h1,h2,h3⟩:=h (k+j) (by omega)
 cases e
 exact ⟨b,off+k,rfl,h1,h2,by rw [List.getElem?_drop,show off+k+j = off+(k+j) from by omega];exact h3⟩
theorem IntRow.take {base:Nat} {W:World} {a:Option Addr} {zs:List Int} (h:IntRow base W a zs) (k:Nat):IntRow base W a (zs.take k):=fun j hj=>by
 rw [List.length_take] at hj
 obtain ⟨b',off',e,h1,h2,h3⟩:=h j (by omega)
 exact ⟨b',off',e,h1,h2,by rw [List.getElem?_take_of_lt (by omega)];exact h3⟩
theorem NewQ.keepB {base:Nat} {W W':World} {v:Value} {ps:PairL} (h:NewQ base W v ps) (hk:∀ q,q < W.heap.size→W'.heap[q]? = W.heap[q]?):NewQ base W' v ps:=by
 obtain ⟨us,h1,h2⟩:=h
 refine ⟨us,ownsRow_keep h1 fun q hq=>hk q (World.ownsRow.lt h1 q hq).2,fun j hj=>?_⟩
 obtain ⟨aL,cL,aR,cR,a,b,c,d,r⟩:=h2 j hj
 have hi:∀ b,base≤b→(∃ cs p,W.heap[b]? = some (.cells cs 3 p))→W'.heap[b]? = W.heap[b]?:=fun b _ ⟨_,_,hc⟩=>hk b (Array.getElem?_eq_some_iff.1 hc).1
 exact ⟨aL,cL,aR,cR,a,b,c.keep hi,d.keep hi,r⟩
theorem New.past {base base2:Nat} {w11 V w12:World} {v vq:Value} {zs:List Int} {l:PairL} (hN:New base w11 v zs) (hV:∀ q,q < w11.heap.size→V.heap[q]? = w11.heap[q]?) (hQ:NewQ base2 V vq l) (hg:V.grownBy w12 vq.ownBlock):New base w12 v zs :=
 ownsRow_keep hN fun q hq=>by
  obtain ⟨us,hus,_⟩:=hQ
  obtain ⟨cur,hc⟩:=row_type hN hq
  have hc':=hc
  rw [← hV q (Array.getElem?_eq_some_iff.1 hc).1] at hc'
  refine (hg.block q (Array.getElem?_eq_some_iff.1 hc').1 fun e=>?_).trans (hV q (Array.getElem?_eq_some_iff.1 hc).1)
  obtain ⟨cur2,h2⟩:=row_type hus e.symm
  rw [hc'] at h2
  simp only [Option.some.injEq,Obj.cells.injEq] at h2
  exact absurd h2.2.1 (by decide)
theorem step_append_pairq {ops:Array Oper} {o:Oper} {a:Act} {K:Act→World→Prop} {Q:Exit→Act→World→Prop} {E:Prop} (w:World) (hgd:o.guard = none) (s x:Operand)
 (ho:o.op = .call { callee:=.builtin .append,args:=#[s,x],argTypes:=#[24,24] }) (base:Nat) (v:Value) (ps:PairL) (hs:a.eval s = v) (hN:NewQ base w v ps)
 (B:Nat) (aL aR:Option Addr) (t t2:List Int) (n1 n2 cL cR:Nat) (hn1:n1 = t.length) (hn2:n2 = t2.length) (hx:a.eval x = .slice (some ⟨B,0,none⟩) 1 1) (hB:w.heap[B]? = some (.cells #[.slice aL n1 cL,.slice aR n2 cR] 40)) (h1:IntRow base w aL t) (h2:IntRow base w aR t2) (c1:t.length≤cL) (c2:cL≤maxLen) (c3:t2.length≤cR) (c4:cR≤maxLen) (hlen:ps.length≤1000000) (hbase:base≤w.heap.size)
 (h:∀ g c' w',NewQ base w' (.slice (some ⟨g,0,none⟩) (ps.length+1) c') (ps++[(t,t2)])→w.grownBy w' v.ownBlock→Below base w w'→K (a.put o.dst (.slice (some ⟨g,0,none⟩) (ps.length+1) c')) w') :
 if Region.wanted o (yielded ops a.tmps) = true then Oper.wp Tryz.prog o a w K Q else E:=by
 subst hn1 hn2
 obtain ⟨i0,hi,hz0,hz1,hz2⟩:=info_parts Tryz.info40
 obtain ⟨us,hus,hcl⟩:=hN
 refine step_append_lies w hgd s x 24 ho base 40 i0 (.agg #[.slice none 0 0,.slice none 0 0]) 2 48 Tryz.infoPairs hi hz0 hz1 hz2 rfl (by decide) v ps.length us hs hus ⟨B,0,none⟩ 1 1 [.slice aL t.length cL,.slice aR t2.length cR] hx (by simp)
  (by intro j z hj
      match j,hj with
      | 0,hj=>simp at hj;subst hj;rw [Go.WideShapes.add_plain];simpa using (cell_at hB 0)
      | 1,hj=>simp at hj;subst hj;rw [Go.WideShapes.add_plain];simpa using (cell_at hB 1))
  (by intro u hu;simp at hu;rcases hu with rfl | rfl <;> rfl) (by decide) (by unfold maxLen;omega) (by omega) hbase w.heap.size rfl ?_
 intro g c' w' hown hg _ _
 exact h g c' w' (NewQ.snoc hg h1 h2 c1 c2 c3 c4 hus hcl hown) hg ((Below.refl base w).grown hg hbase fun k e=>(World.ownsRow.lt hus k e).1)
theorem Tm.applied8 {val:List (List Int)} (h:Tm.subErr val = 0) {t u:List Int}:∀ s∈Tm.applied val t++Tm.applied val u,-8≤s:=by
 have key:∀ t:List Int,∀ s∈Tm.applied val t,-8≤s:=by
  intro t
  induction t with
  | nil=>intro s hs;cases hs
  | cons q l ih =>
   intro s hs
   rw [Tm.applied_cons] at hs
   rcases List.mem_append.1 hs with hs | hs
   ·unfold Tm.piece at hs
    by_cases hq:q < 0
    ·rw [if_pos hq] at hs
     obtain ⟨hl,hf⟩:=Tm.subErr_ok h
     by_cases hi:(-1 - q).toNat < val.length
     ·exact (Tm.known_mem (Tm.firstErr_all hf _ hi) hs).1
     ·rw [List.getElem?_eq_none (by omega)] at hs
      cases hs
    ·rw [if_neg hq] at hs
     simp only [List.mem_cons,List.not_mem_nil,or_false] at hs
     omega
   ·exact ih s hs
 intro s hs
 rcases List.mem_append.1 hs with h | h
 ·exact key t s h
 ·exact key u s h
def RefOf (L1 R1 L2 R2:List Int) (i j:Int) (w:World) (e:Ending) (w':World):Prop:=Below w.heap.size w w'∧∃ er ps v,Tm.LapsSays L1 R1 (Tm.others L2) (Tm.others R2) (Tm.passB L1 i j) er ps∧e = .returned (.tuple #[v,.int .i64 er])∧NewQ w.heap.size w' v ps
set_option maxRecDepth 100000 in
set_option maxHeartbeats 4000000 in
theorem refof_right (L1 R1 L2 R2:List Int) (rs:RuleL) (i j:Nat) (hi:i < rs.length) (hj:j < rs.length) (a:Option Addr) (cap:Nat) (w:World) (hr:rs.length≤8) (hR:RulesAt w.heap.size w a rs) (eqi:rs[i]?.getD ([],[]) = (L1,R1)) (eqj:rs[j]?.getD ([],[]) = (L2,R2)) (eL:Tm.err L1 = 0) (eR:Tm.err R1 = 0) (eL2:Tm.err L2 = 0) (eR2:Tm.err R2 = 0) (eO:Tm.err (Tm.others L2) = 0) (eO2:Tm.err (Tm.others R2) = 0) :
 Calls Tryz.prog 88 #[.slice a rs.length cap,.int .i64 (i:Int),.int .i64 (j:Int)] w fun e w'=>RefOf L1 R1 L2 R2 (i:Int) (j:Int) w e w':=by
 have hi':(i:Int) < (rs.length:Int):=by omega
 have hj':(j:Int) < (rs.length:Int):=by omega
 have hr':(rs.length:Int)≤8:=by omega
 obtain ⟨b,off,rfl,hb,aL,cL,aR,cR,g1,g2,g3,g4,g5,g6,g7,g8⟩:=hR i hi
 obtain ⟨b',off',e',hb',aL2,cL2,aR2,cR2,p1,p2,p3,p4,p5,p6,p7,p8⟩:=hR j hj
 cases e'
 rw [eqi] at g1 g2 g3 g4 g5 g7
 rw [eqj] at p1 p2 p3 p4 p5 p7
 simp only at g1 g2 g3 g4 g5 g7 p1 p2 p3 p4 p5 p7
 obtain ⟨ba,oa,rfl⟩:∃ ba oa,aL = some ⟨ba,oa,none⟩:=by obtain ⟨x,y,e,_⟩:=g3.at (Tm.err_pos eL);exact ⟨x,y,e⟩
 have lL:=Tm.err_len eL
 have lR:=Tm.err_len eR
 have lL2:=Tm.err_len eL2
 have lR2:=Tm.err_len eR2
 have lL':(L1.length:Int)≤30:=by omega
 obtain ⟨W1,hW1⟩:∃ W1,w.alloc (.cells #[.slice (some ⟨ba,oa,none⟩) L1.length cL,.slice aR R1.length cR] 54) = W1:=⟨_,rfl⟩
 have hB1:Below w.heap.size w W1:=by rw [← hW1];exact (Below.refl _ w).alloc (Nat.le_refl _) _
 have hs1:W1.heap.size = w.heap.size+1:=by rw [← hW1];simp
 have bx:Box2 W1 w.heap.size 54 (.slice (some ⟨ba,oa,none⟩) L1.length cL) (.slice aR R1.length cR):=by rw [← hW1];exact Box2.new w 54 _ _
 have Hbx:=hid bx
 have hO1:=hid (fun V (hV:Below W1.heap.size W1 V)=>(refothers_any L2 aL2 cL2 V lL2 (Tm.err_pos eL2) (fun k hk=>by have:=(Tm.known8 eL2 k hk);omega) ((p3.below (hB1.trans (hV.mono hB1.size))).mono (Nat.le_trans hB1.size hV.size))).mono (fun e w' ⟨v,h1,h2,h3⟩=>(⟨v,h1,h2.mono (Nat.le_trans hB1.size hV.size),h3,hV.trans (h3.mono hV.size)⟩:∃ v,e = Ending.returned v∧New w.heap.size w' v (Tm.others L2)∧Below V.heap.size V w'∧Below W1.heap.size W1 w')))
 have hO2:=hid (fun V (hV:Below W1.heap.size W1 V)=>(refothers_any R2 aR2 cR2 V lR2 (Tm.err_pos eR2) (fun k hk=>by have:=(Tm.known8 eR2 k hk);omega) ((p4.below (hB1.trans (hV.mono hB1.size))).mono (Nat.le_trans hB1.size hV.size))).mono (fun e w' ⟨v,h1,h2,h3⟩=>(⟨v,h1,h2.mono (Nat.le_trans hB1.size hV.size),h3,hV.trans (h3.mono hV.size)⟩:∃ v,e = Ending.returned v∧New w.heap.size w' v (Tm.others R2)∧Below V.heap.size V w'∧Below W1.heap.size W1 w')))
 have hS:Hid (∀ V,Below W1.heap.size W1 V→V.cell? ⟨b,off+j * 2,none⟩ = some (.slice aL2 L2.length cL2)∧V.cell? ⟨b,off+j * 2+1,none⟩ = some (.slice aR2 R2.length cR2)):=fun V hV'=>by
  have hV:=hB1.trans (hV'.mono hB1.size)
  exact ⟨(hV.cell (p:=⟨b,off+j * 2,none⟩) hb).trans p1,(hV.cell (p:=⟨b,off+j * 2+1,none⟩) hb).trans p2⟩
 have hBW:=Below.refl W1.heap.size W1
 have hS0:=hS.out _ hBW
 have HW1:=hid hW1
 have HB1:=hid hB1
 have hI1:Hid (∀ V,Below W1.heap.size W1 V→Ints V.heap.size V (some ⟨ba,oa,none⟩) L1):=fun V hV=>(g3.below (hB1.trans (hV.mono hB1.size))).mono (Nat.le_trans hB1.size hV.size)
 have hI2:Hid (∀ V,Below W1.heap.size W1 V→Ints V.heap.size V aR R1):=fun V hV=>(g4.below (hB1.trans (hV.mono hB1.size))).mono (Nat.le_trans hB1.size hV.size)
 have hbx:Hid (∀ V,Below W1.heap.size W1 V→V.cell? ⟨w.heap.size,0,none⟩ = some (.slice (some ⟨ba,oa,none⟩) L1.length cL)∧V.cell? ⟨w.heap.size,1,none⟩ = some (.slice aR R1.length cR)):=fun V hV=>⟨(hV.cell (p:=⟨w.heap.size,0,none⟩) (by show w.heap.size < _;omega)).trans Hbx.out.cell0,(hV.cell (p:=⟨w.heap.size,1,none⟩) (by show w.heap.size < _;omega)).trans Hbx.out.cell1⟩
 clear hR eqi eqj hW1 bx hB1 p3 p4 p5 p6 p7 p8 hs1
 go_enter Tryz.func88,Tryz.ntmps88
 go_wp2
 rw [HW1.out]
 go_region_held3 (fun w'=>w'.cell? ⟨b,off+j * 2,none⟩ = some (.slice aL2 L2.length cL2)∧w'.cell? ⟨b,off+j * 2+1,none⟩ = some (.slice aR2 R2.length cR2)) (first | assumption | exact hS0)
  (first
    | (go_at_call_of 115 (Value.slice aL2 L2.length cL2);refine (hO1.out _ (by first | exact hBW | exact below_drewN hBW 1 | exact hBR | exact below_drewN hBR 1)).mono ?_;rintro e wL ⟨vL,rfl,nL,bL,hBL⟩;obtain ⟨xL,kL,rfl,_⟩:=New.ints nL;have sL:=hS.out _ hBL;(try have NLR:=hid (And.intro nL (New.below nR bL)));(try have BF:=hid hBL))
    | (go_at_call_of 115 (Value.slice aR2 R2.length cR2);refine (hO2.out _ (by first | exact hBW | exact below_drewN hBW 1 | exact hBL | exact below_drewN hBL 1)).mono ?_;rintro e wR ⟨vR,rfl,nR,bR,hBR⟩;obtain ⟨xR,kR,rfl,_⟩:=New.ints nR;have sR:=hS.out _ hBR;(try have NLR:=hid (And.intro (New.below nL bR) nR));(try have BF:=hid hBR)))
 all_goals (
  have qL:Hid ((Tm.others L2).length≤kL∧kL≤maxLen):=by obtain ⟨_,_,e,_,h1,h2⟩:=New.ints nL;cases e;exact ⟨h1,h2⟩
  have qR:Hid ((Tm.others R2).length≤kR∧kR≤maxLen):=by obtain ⟨_,_,e,_,h1,h2⟩:=New.ints nR;cases e;exact ⟨h1,h2⟩
  clear sL sR nL nR hBL hBR bL bR hS0 hS hO1 hO2 hBW p1 p2
  go_wp2
  go_loopw [8,12] (fun v x wr=>∃ (k:Nat) (l:PairL),k≤L1.length∧x = .int .i64 (k:Int)∧Hid (Tm.Laps L1 R1 (Tm.others L2) (Tm.others R2) (Tm.passB L1 (i:Int) (j:Int)) k l)∧Hid (NewQ W1.heap.size wr v l)∧Hid (Below W1.heap.size W1 wr)∧Hid (New w.heap.size wr (.slice xL (Tm.others L2).length kL) (Tm.others L2))∧Hid (New w.heap.size wr (.slice xR (Tm.others R2).length kR) (Tm.others R2))) (fun _ x _=>L1.length - (intOf x).toNat)
  case atStart=>exact ⟨0,[],Nat.zero_le _,rfl,.zero,NewQ.nil _ _,(by first | exact BF | exact below_drewN BF.out 1),NLR.out.1,NLR.out.2⟩
  case round =>
   obtain ⟨k,l,hk,rfl,hLp,hNQ,hBk,hNL,hNR⟩:=hrel
   obtain ⟨hx0,hx1⟩:=hbx.out _ hBk.out
   obtain ⟨vq,cq,rfl,_⟩:=hNQ.out.at
   by_cases hlt:k < L1.length
   ·have hkl:(k:Int) < (L1.length:Int):=by omega
    obtain ⟨_,_,e,_,hcc⟩:=(hI1.out _ hBk.out).at (by omega)
    cases e
    have hck:=hcc k hlt
    have hpb:Hid (Tm.passB L1 (i:Int) (j:Int) k = (decide (L1[k]?.getD 0 < 0) || (decide (k = 0) && decide ((i:Int) = (j:Int))))):=rfl
    have ep:=hid (Tm.part_err eL hlt)
    clear hcc
    generalize L1[k]?.getD 0 = s at hck hpb
    by_cases hs:s < 0
    ·have hL':=hid (Tm.Laps.pass hLp.out (by rw [hpb.out];simp [hs]))
     go_wp2
     go_roundw
     case rel=>exact ⟨k+1,l,by omega,by go_num,hL'.out,hNQ,hBk,hNL,hNR⟩
     case measure=>simp [intOf];omega
    ·have hs':decide (s < 0) = false:=by simpa using hs
     by_cases hij:i = j
     ·have hij':((i:Int) == (j:Int)) = true:=by simp [hij]
      by_cases hk0:k = 0
      ·have hk0':((k:Int) == 0) = true:=by simp [hk0]
       have hL':=hid (Tm.Laps.pass hLp.out (by rw [hpb.out];simp [hij,hk0]))
       clear hij hk0
       go_wp2
       go_roundw
       case rel=>exact ⟨k+1,l,by omega,by go_num,hL'.out,hNQ,hBk,hNL,hNR⟩
       case measure=>simp [intOf];omega
      ·have hk0':((k:Int) == 0) = false:=by simp;omega
       have Hp:Hid (Tm.passB L1 (i:Int) (j:Int) k = false):=by show _ = _;rw [hpb.out];simp [hs,hk0]
       clear hij hk0 hpb hs
       have hpart:=hid (fun V (hV:Below W1.heap.size W1 V)=>partOf_any L1 (some ⟨ba,oa,none⟩) cL k V (hI1.out V hV) g5 g6 eL hlt)
       have hmet:=hid (fun (V:World) (B:Nat) (ap:Option Addr) (cp:Nat) (hblk:V.heap[B]? = some (.cells #[.slice ap (Tm.part L1 k).length cp,.slice xL (Tm.others L2).length kL] 40)) h1 h2 h3 h4=>met_one (Tm.part L1 k) (Tm.others L2) ap xL cp kL B V hblk h1 h2 h3 h4 qL.out.1 qL.out.2 ep.out eO)
       go_wp2_with fail
       refine (hpart.out _ hBk.out).mono ?_
       rintro e w4 ⟨v4,rfl,n4,b4⟩
       obtain ⟨x4,k4,rfl,i4,m4,m4'⟩:=New.ints n4
       have hB4:=hid (hBk.out.trans (b4.mono hBk.out.size))
       have nL4:=hid (New.below hNL.out b4)
       have nR4:=hid (New.below hNR.out b4)
       have nQ4:=hid (hNQ.out.below b4)
       have hal:Hid (Below w4.heap.size w4 (w4.alloc (.cells #[.slice x4 (Tm.part L1 k).length k4,.slice xL (Tm.others L2).length kL] 40))):=(Below.refl _ _).alloc (Nat.le_refl _) _
       have iL4:Hid (Ints w4.heap.size w4 xL (Tm.others L2)):=by obtain ⟨_,_,e,h,_⟩:=New.ints nL4.out;cases e;exact h
       have hmc:=hid (hmet.out _ w4.heap.size x4 k4 (World.alloc_heap_new w4 _) ((i4.below hal.out).mono hal.out.size) ((iL4.out.below hal.out).mono hal.out.size) m4 m4')
       clear hpart hmet i4 n4 b4 hNL hNR hNQ m4 m4'
       go_wp2_with fail
       refine hmc.out.mono ?_
       rintro e w5 ⟨b5,er,is,val,v5,hSays,rfl,hS5⟩
       clear hmc
       have b5':=hid (hal.out.trans (b5.mono hal.out.size))
       have hB5:=hid (hB4.out.trans (b5'.out.mono hB4.out.size))
       have nL5:=hid (New.below nL4.out b5'.out)
       have nR5:=hid (New.below nR4.out b5'.out)
       have nQ5:=hid (nQ4.out.below b5'.out)
       obtain ⟨x5,k5,rfl,hSub,_⟩:=NewS.subs hS5
       have Hsays:=hid hSays
       have HSub:=hid hSub
       clear hS5 hSub hal iL4 nL4 nR4 nQ4 b5 b5' hB4
       have hbF:=hid (HB1.out.trans (hB5.out.mono HB1.out.size))
       by_cases her:er = 0
       ·subst her
        cases is with
        | false =>
         have hL':=hid (Tm.Laps.no hLp.out Hp.out hSays)
         clear hSays HSub
         go_wp2
         go_roundw
         case rel=>exact ⟨k+1,l,by omega,by go_num,hL'.out,nQ5,hB5,nL5,nR5⟩
         case measure=>simp [intOf];omega
        | true =>
         obtain ⟨hsub,_,_,_,_⟩:=Tm.meet_true hSays
         obtain ⟨h8,hfe⟩:=Tm.subErr_ok hsub
         have hsh:=Short.of_ok hfe
         have hprt:=hid (Tm.prt_ref (val:=val) (m:=k) hsub eL eR eO2 hlt)
         have hyes:=hid (fun h=>Tm.Laps.yes hLp.out Hp.out Hsays.out h)
         have hbad:Hid (Tm.prtErr val L1 R1 (k:Int) (Tm.others R2) = 2→Tm.LapsSays L1 R1 (Tm.others L2) (Tm.others R2) (Tm.passB L1 (i:Int) (j:Int)) 2 []):=fun h=>.inr ⟨⟨by decide,k,l,hlt,hLp.out,Hp.out,.inr ⟨val,Hsays.out,h⟩⟩,rfl⟩
         have hpl:(Tm.put L1 k (Tm.others R2)).length≤60:=by
          have h1:=Tm.put_length (zs:=L1) (us:=Tm.others R2) hlt
          have h2:=Tm.err_len eO2
          have h3:=Tm.endAt_gt L1 k
          omega
         have hp8:Hid (∀ q,q < (Tm.put L1 k (Tm.others R2)).length→-8≤(Tm.put L1 k (Tm.others R2))[q]?.getD 0):=fun q hq=>by
          rw [List.getElem?_eq_getElem hq]
          rcases Tm.put_signs (List.getElem_mem hq) with h | h
          ·exact (Tm.known_mem eL h).1
          ·exact (Tm.known_mem eO2 h).1
         have iR5:Hid (Ints w5.heap.size w5 xR (Tm.others R2)):=by obtain ⟨_,_,e,h,_⟩:=New.ints nR5.out;cases e;exact h
         have hput:=hid (refput_any L1 (Tm.others R2) (some ⟨ba,oa,none⟩) xR cL kR k w5 (hI1.out _ hB5.out) iR5.out g5 g6 eL eO2 hlt)
         have hap:=hid (fun (V:World) (ad:Option Addr) (ct:Nat) h1 h2=>applied_long val h8 hsh x5 k5 (Tm.put L1 k (Tm.others R2)) ad ct (by omega) hp8.out V h1 h2)
         have haq:=hid (fun (V:World) (hV:Below W1.heap.size W1 V) h1=>applied_long val h8 hsh x5 k5 R1 aR cR (by omega) (Tm.known8 eR) V h1 (hI2.out V hV))
         have hxl:=Tm.applied_le hsh (Tm.put L1 k (Tm.others R2))
         have hyl:=Tm.applied_le hsh R1
         have hx0:Hid (0 < (Tm.applied val R1).length):=by
          have:=Tm.applied_more hsub R1 fun s hs=>(Tm.known_mem eR hs).1
          have:=Tm.err_pos eR
          show 0 < _
          omega
         have hXpos:Hid (0 < (Tm.applied val (Tm.put L1 k (Tm.others R2))).length):=by
          have h1:=Tm.applied_more hsub (Tm.put L1 k (Tm.others R2)) fun s hs=>by
           rcases Tm.put_signs hs with h | h
           ·exact (Tm.known_mem eL h).1
           ·exact (Tm.known_mem eO2 h).1
          have h2:=Tm.put_length (zs:=L1) (us:=Tm.others R2) hlt
          have h3:=Tm.err_pos eO2
          show 0 < _
          omega
         have hx8:Hid (∀ s∈Tm.applied val (Tm.put L1 k (Tm.others R2))++Tm.applied val R1,-8≤s):=Tm.applied8 hsub
         have H8:=hid h8
         clear hSays hsub h8 hfe hsh
         generalize Tm.applied val (Tm.put L1 k (Tm.others R2)) = X at *
         generalize Tm.applied val R1 = Y at *
         generalize Tm.put L1 k (Tm.others R2) = pt at *
         have hXI:(X.length:Int)≤2000:=by omega
         have hYI:(Y.length:Int)≤2000:=by omega
         rw [H8.out]
         obtain ⟨hx05,hx15⟩:=hbx.out _ hB5.out
         go_wp2_with fail
         refine hput.out.mono ?_
         rintro e w6 ⟨v6,rfl,n6,b6⟩
         obtain ⟨x6,k6,rfl,i6,_⟩:=New.ints n6
         have b6k:=hid b6
         have hB6:=hid (hB5.out.trans (b6.mono hB5.out.size))
         have S6:=hid ((HSub.out.below b6).mono b6.size)
         have nL6:=hid (New.below nL5.out b6)
         have nR6:=hid (New.below nR5.out b6)
         have nQ6:=hid (nQ5.out.below b6)
         clear hput n6 HSub nL5 nR5 nQ5 iR5 b6
         go_wp2_with fail
         refine (hap.out _ _ _ S6.out i6).mono ?_
         rintro e w7 ⟨v7,rfl,n7,b7⟩
         obtain ⟨x7,k7,rfl,i7,_⟩:=New.ints n7
         have hB7:=hid (hB6.out.trans (b7.mono hB6.out.size))
         have S7:=hid ((S6.out.below b7).mono b7.size)
         have nL7:=hid (New.below nL6.out b7)
         have nR7:=hid (New.below nR6.out b7)
         have nQ7:=hid (nQ6.out.below b7)
         obtain ⟨_,hx1'⟩:=hbx.out _ hB7.out
         clear hap n7 i6 S6 nL6 nR6 nQ6
         go_wp2_with fail
         refine (haq.out _ hB7.out S7.out).mono ?_
         rintro e w8 ⟨v8,rfl,n8,b8⟩
         obtain ⟨x8,k8,rfl,i8,_⟩:=New.ints n8
         have hB8:=hid (hB7.out.trans (b8.mono hB7.out.size))
         have nL8:=hid (New.below nL7.out b8)
         have nR8:=hid (New.below nR7.out b8)
         have nQ8:=hid (nQ7.out.below b8)
         have i7':=hid ((i7.below b8).mono b8.size)
         have i8':=hid i8
         clear haq n8 i7 i8 S7 nL7 nR7 nQ7
         rcases hprt.out with ⟨h1,h2,h3,h4,h5⟩ | ⟨hbig,h3⟩
         ·have h1':(X.length:Int)≤30:=by omega
          have h2':(Y.length:Int)≤30:=by omega
          have hY0:=hx0.out
          have H3:=hid (hyes.out h3)
          have H4:=hid h4
          have hXp:0 < X.length:=by
           have h:=hXpos.out
           omega
          obtain ⟨b7',o7',rfl,_⟩:=i7'.out.at hXp
          obtain ⟨b8',o8',rfl,_⟩:=i8'.out.at hY0
          have hl0:Hid (New w8.heap.size (w8.alloc (.cells #[] 3)) (.slice (some ⟨w8.heap.size,0,none⟩) 0 0) []):=New.lit w8.heap.size w8 [] (Nat.le_refl _) (by unfold maxLen;simp)
          have hA0:Hid (Below w8.heap.size w8 (w8.alloc (.cells #[] 3))):=(Below.refl _ _).alloc (Nat.le_refl _) _
          obtain ⟨Z,hZ⟩:∃ Z,X++Y = Z:=⟨_,rfl⟩
          have hZl:Z.length = X.length+Y.length:=by rw [← hZ,List.length_append]
          have hpln:=hid (fun (V:World) (ad:Option Addr) (ct:Nat) h=>refplain_long Z ad ct V (by omega) (by omega) (fun q hq=>by rw [List.getElem?_eq_getElem hq];exact hx8.out _ (by rw [hZ];exact List.getElem_mem hq)) h)
          have hpll:Hid ((Tm.plain Z).length = X.length+Y.length):=by
           show _ = _
           unfold Tm.plain
           rw [Tm.plainTo_length,hZl]
          rw [hZ] at h5
          have H5:=hid h5
          have HZ:=hid hZ
          have HZl:=hid hZl
          clear hZ hZl
          clear hyes hbad h3 h4 h5 hx8 hprt hx0 hXpos
          go_wp2_with (first
           | (at_builtin;refine wp_append_ints _ rfl _ _ rfl w8.heap.size _ [] rfl hl0.out _ X _ rfl (fun e=>by cases e) ((i7'.out.below hA0.out).mono hA0.out.size) (by simp;omega) hA0.out.size ?_;intro v9 w9 n9 b9;obtain ⟨x9,k9,rfl,_⟩:=New.ints n9;have hA9:=hid (hA0.out.trans b9);rw [List.nil_append] at n9)
           | (at_builtin;refine wp_append_ints _ rfl _ _ rfl w8.heap.size _ X rfl n9 _ Y _ rfl (fun e=>by cases e) ((i8'.out.below hA9.out).mono hA9.out.size) (by omega) hA9.out.size ?_;intro v10 w10 n10 b10;rw [HZ.out] at n10;obtain ⟨x10,k10,rfl,i10,_⟩:=New.ints n10;have hA10:=hid (hA9.out.trans b10))
           | (go_at_call 95;refine (hpln.out _ _ _ i10).mono ?_;rintro e w11 ⟨v11,rfl,n11,b11⟩;have hA11:=hid (hA10.out.trans (b11.mono hA10.out.size));obtain ⟨x11,k11,rfl,hir,hk1,hk2⟩:=IntRow.of n11))
          have hP2:=hid (hpll.out)
          obtain ⟨g11,k11',e11,_,_⟩:=New.at0 n11 (by have:=hpll.out;omega)
          cases e11
          have hV1:Hid ((Tm.prtVal val L1 R1 (k:Int) (Tm.others R2)).1 = (Tm.plain Z).take X.length):=by show _ = _;rw [← H5.out,← H4.out,List.take_left]
          have hV2:Hid ((Tm.prtVal val L1 R1 (k:Int) (Tm.others R2)).2 = (Tm.plain Z).drop X.length):=by show _ = _;rw [← H5.out,← H4.out,List.drop_left]
          have hir':=hid (hir.mono (show W1.heap.size≤w10.heap.size from by have h2:=hB8.out.size;have h3:=hA10.out.size;omega))
          have nQ11:=hid (nQ8.out.below hA11.out)
          have nL11:=hid (New.below nL8.out hA11.out)
          have nR11:=hid (New.below nR8.out hA11.out)
          have hB11:=hid (hB8.out.trans (hA11.out.mono hB8.out.size))
          have hll:l.length≤1000:=by have:=hLp.out.len;omega
          clear n11 hir hA11 hA10 hA9 hA0 b11 b10 n10 n9 i10 b9 nQ8 nL8 nR8 i7' i8' hB8
          generalize Tm.plain Z = PZ at *
          have hk1':(PZ.length:Int)≤(k11:Int):=by omega
          have hPZ:(PZ.length:Int) = (X.length:Int)+(Y.length:Int):=by have:=hpll.out;omega
          have hXP:(X.length:Int)≤(PZ.length:Int):=by omega
          have hXk:(X.length:Int)≤(k11:Int):=by omega
          have hkz:¬ k11 - X.length = 0:=by omega
          have hkz2:¬ k11 = X.length:=by omega
          have hq1:Hid ((PZ.take X.length).length≤X.length):=by show _≤_;rw [List.length_take];omega
          have hq2:Hid ((PZ.drop X.length).length≤k11 - X.length):=by show _≤_;rw [List.length_drop];omega
          have hdl:Hid (PZ.length - X.length = (PZ.drop X.length).length):=(List.length_drop).symm
          have htl:Hid (X.length = (PZ.take X.length).length):=by show _ = _;rw [List.length_take];omega
          have HPZ:=hid hPZ
          clear hPZ
          have hkm:k11≤9223372036854775807:=hk2
          have hkm':(k11:Int)≤9223372036854775807:=by omega
          have hnw:W1.heap.size≤w11.heap.size:=hB11.out.size
          have hq11:Hid (∀ V:World,V.heap = (w11.alloc (.cells #[.slice (some ⟨g11,0,none⟩) X.length X.length,.slice (some ⟨g11,X.length,none⟩) (PZ.length - X.length) (k11 - X.length)] 40)).heap→NewQ W1.heap.size V (.slice vq l.length cq) l):=fun V hV=>nQ11.out.keepB fun q hq=>by rw [hV,Below.heap_alloc _ _ _ hq]
          have hblk:Hid (∀ V:World,V.heap = (w11.alloc (.cells #[.slice (some ⟨g11,0,none⟩) X.length X.length,.slice (some ⟨g11,X.length,none⟩) (PZ.length - X.length) (k11 - X.length)] 40)).heap→V.heap[w11.heap.size]? = some (.cells #[.slice (some ⟨g11,0,none⟩) X.length X.length,.slice (some ⟨g11,X.length,none⟩) (PZ.length - X.length) (k11 - X.length)] 40)):=fun V hV=>by rw [hV];exact World.alloc_heap_new w11 _
          have hir1:Hid (∀ V:World,V.heap = (w11.alloc (.cells #[.slice (some ⟨g11,0,none⟩) X.length X.length,.slice (some ⟨g11,X.length,none⟩) (PZ.length - X.length) (k11 - X.length)] 40)).heap→IntRow W1.heap.size V (some ⟨g11,0,none⟩) (PZ.take X.length)):=fun V hV=>(hir'.out.take X.length).keep fun q _ ⟨_,_,hc⟩=>by rw [hV,Below.heap_alloc _ _ _ (Array.getElem?_eq_some_iff.1 hc).1]
          have hir2:Hid (∀ V:World,V.heap = (w11.alloc (.cells #[.slice (some ⟨g11,0,none⟩) X.length X.length,.slice (some ⟨g11,X.length,none⟩) (PZ.length - X.length) (k11 - X.length)] 40)).heap→IntRow W1.heap.size V (some ⟨g11,X.length,none⟩) (PZ.drop X.length)):=fun V hV=>by
           have h:=hir'.out.drop X.length
           rw [Nat.zero_add] at h
           exact h.keep fun q _ ⟨_,_,hc⟩=>by rw [hV,Below.heap_alloc _ _ _ (Array.getElem?_eq_some_iff.1 hc).1]
          go_region_held3 (fun _=>True) (first | trivial)
           ((refine step_append_pairq _ (by rfl) _ _ (by rfl) W1.heap.size (.slice vq l.length cq) l (by rfl) (hq11.out _ (by rfl)) w11.heap.size (some ⟨g11,0,none⟩) (some ⟨g11,X.length,none⟩) (PZ.take X.length) (PZ.drop X.length) X.length (PZ.length - X.length) X.length (k11 - X.length) htl.out hdl.out (by rfl) (hblk.out _ (by rfl)) (hir1.out _ (by rfl)) (hir2.out _ (by rfl)) hq1.out (by unfold maxLen;omega) hq2.out (by unfold maxLen;omega) (by omega) (by simp;omega) ?_;intro g12 c12 w12 n12 hg12 b12))
          have nL12:=hid (New.past nL11.out (V:=(w11.alloc (.cells #[.slice (some ⟨g11,0,none⟩) X.length X.length,.slice (some ⟨g11,X.length,none⟩) (PZ.length - X.length) (k11 - X.length)] 40)).drew) (fun q hq=>Below.heap_alloc _ _ _ hq) (hq11.out _ rfl) hg12)
          have nR12:=hid (New.past nR11.out (V:=(w11.alloc (.cells #[.slice (some ⟨g11,0,none⟩) X.length X.length,.slice (some ⟨g11,X.length,none⟩) (PZ.length - X.length) (k11 - X.length)] 40)).drew) (fun q hq=>Below.heap_alloc _ _ _ hq) (hq11.out _ rfl) hg12)
          have hB12:Hid (Below W1.heap.size W1 w12):=(hB11.out.trans (below_drewN ((Below.refl _ _).alloc hnw _) 1)).trans b12
          have hPV:Hid (Tm.prtVal val L1 R1 (k:Int) (Tm.others R2) = (PZ.take X.length,PZ.drop X.length)):=Prod.ext hV1.out hV2.out
          clear hq11 hblk hir1 hir2 hg12 b12
          go_wp2
          go_roundw
          case rel =>
           have h3:=H3.out
           rw [hPV.out] at h3
           exact ⟨k+1,_,by omega,by go_num,h3,n12,hB12,nL12,nR12⟩
          case measure=>simp [intOf];omega
         ·have hs:=hid (hbad.out h3)
          clear hprt hyes hbad h3
          by_cases hb1:30 < X.length
          ·have hb1':(30:Int) < (X.length:Int):=by omega
           clear hbig hb1
           go_wp2
           go_ret2
           exact ⟨HB1.out.trans (hB8.out.mono HB1.out.size),2,[],_,hs.out,rfl,NewQ.nil _ _⟩
          ·have hb1':decide ((30:Int) < (X.length:Int)) = false:=by simp;omega
           have hb2':(30:Int) < (Y.length:Int):=by omega
           clear hbig hb1
           go_wp2
           go_ret2
           exact ⟨HB1.out.trans (hB8.out.mono HB1.out.size),2,[],_,hs.out,rfl,NewQ.nil _ _⟩
       ·have hs:=hid (show Tm.LapsSays L1 R1 (Tm.others L2) (Tm.others R2) (Tm.passB L1 (i:Int) (j:Int)) er [] from .inr ⟨⟨her,k,l,hlt,hLp.out,Hp.out,.inl ⟨is,val,hSays⟩⟩,rfl⟩)
        have hne:(er != 0) = true:=by simpa using her
        clear hSays her HSub
        go_wp2
        go_ret2
        exact ⟨hbF.out,er,[],_,hs.out,rfl,NewQ.nil _ _⟩
     ·have hij':((i:Int) == (j:Int)) = false:=by simp;omega
      have Hp:Hid (Tm.passB L1 (i:Int) (j:Int) k = false):=by show _ = _;rw [hpb.out];simp [hs];omega
      clear hij hpb hs
      have hpart:=hid (fun V (hV:Below W1.heap.size W1 V)=>partOf_any L1 (some ⟨ba,oa,none⟩) cL k V (hI1.out V hV) g5 g6 eL hlt)
      have hmet:=hid (fun (V:World) (B:Nat) (ap:Option Addr) (cp:Nat) (hblk:V.heap[B]? = some (.cells #[.slice ap (Tm.part L1 k).length cp,.slice xL (Tm.others L2).length kL] 40)) h1 h2 h3 h4=>met_one (Tm.part L1 k) (Tm.others L2) ap xL cp kL B V hblk h1 h2 h3 h4 qL.out.1 qL.out.2 ep.out eO)
      go_wp2_with fail
      refine (hpart.out _ hBk.out).mono ?_
      rintro e w4 ⟨v4,rfl,n4,b4⟩
      obtain ⟨x4,k4,rfl,i4,m4,m4'⟩:=New.ints n4
      have hB4:=hid (hBk.out.trans (b4.mono hBk.out.size))
      have nL4:=hid (New.below hNL.out b4)
      have nR4:=hid (New.below hNR.out b4)
      have nQ4:=hid (hNQ.out.below b4)
      have hal:Hid (Below w4.heap.size w4 (w4.alloc (.cells #[.slice x4 (Tm.part L1 k).length k4,.slice xL (Tm.others L2).length kL] 40))):=(Below.refl _ _).alloc (Nat.le_refl _) _
      have iL4:Hid (Ints w4.heap.size w4 xL (Tm.others L2)):=by obtain ⟨_,_,e,h,_⟩:=New.ints nL4.out;cases e;exact h
      have hmc:=hid (hmet.out _ w4.heap.size x4 k4 (World.alloc_heap_new w4 _) ((i4.below hal.out).mono hal.out.size) ((iL4.out.below hal.out).mono hal.out.size) m4 m4')
      clear hpart hmet i4 n4 b4 hNL hNR hNQ m4 m4'
      go_wp2_with fail
      refine hmc.out.mono ?_
      rintro e w5 ⟨b5,er,is,val,v5,hSays,rfl,hS5⟩
      clear hmc
      have b5':=hid (hal.out.trans (b5.mono hal.out.size))
      have hB5:=hid (hB4.out.trans (b5'.out.mono hB4.out.size))
      have nL5:=hid (New.below nL4.out b5'.out)
      have nR5:=hid (New.below nR4.out b5'.out)
      have nQ5:=hid (nQ4.out.below b5'.out)
      obtain ⟨x5,k5,rfl,hSub,_⟩:=NewS.subs hS5
      have Hsays:=hid hSays
      have HSub:=hid hSub
      clear hS5 hSub hal iL4 nL4 nR4 nQ4 b5 b5' hB4
      have hbF:=hid (HB1.out.trans (hB5.out.mono HB1.out.size))
      by_cases her:er = 0
      ·subst her
       cases is with
       | false =>
        have hL':=hid (Tm.Laps.no hLp.out Hp.out hSays)
        clear hSays HSub
        go_wp2
        go_roundw
        case rel=>exact ⟨k+1,l,by omega,by go_num,hL'.out,nQ5,hB5,nL5,nR5⟩
        case measure=>simp [intOf];omega
       | true =>
        obtain ⟨hsub,_,_,_,_⟩:=Tm.meet_true hSays
        obtain ⟨h8,hfe⟩:=Tm.subErr_ok hsub
        have hsh:=Short.of_ok hfe
        have hprt:=hid (Tm.prt_ref (val:=val) (m:=k) hsub eL eR eO2 hlt)
        have hyes:=hid (fun h=>Tm.Laps.yes hLp.out Hp.out Hsays.out h)
        have hbad:Hid (Tm.prtErr val L1 R1 (k:Int) (Tm.others R2) = 2→Tm.LapsSays L1 R1 (Tm.others L2) (Tm.others R2) (Tm.passB L1 (i:Int) (j:Int)) 2 []):=fun h=>.inr ⟨⟨by decide,k,l,hlt,hLp.out,Hp.out,.inr ⟨val,Hsays.out,h⟩⟩,rfl⟩
        have hpl:(Tm.put L1 k (Tm.others R2)).length≤60:=by
         have h1:=Tm.put_length (zs:=L1) (us:=Tm.others R2) hlt
         have h2:=Tm.err_len eO2
         have h3:=Tm.endAt_gt L1 k
         omega
        have hp8:Hid (∀ q,q < (Tm.put L1 k (Tm.others R2)).length→-8≤(Tm.put L1 k (Tm.others R2))[q]?.getD 0):=fun q hq=>by
         rw [List.getElem?_eq_getElem hq]
         rcases Tm.put_signs (List.getElem_mem hq) with h | h
         ·exact (Tm.known_mem eL h).1
         ·exact (Tm.known_mem eO2 h).1
        have iR5:Hid (Ints w5.heap.size w5 xR (Tm.others R2)):=by obtain ⟨_,_,e,h,_⟩:=New.ints nR5.out;cases e;exact h
        have hput:=hid (refput_any L1 (Tm.others R2) (some ⟨ba,oa,none⟩) xR cL kR k w5 (hI1.out _ hB5.out) iR5.out g5 g6 eL eO2 hlt)
        have hap:=hid (fun (V:World) (ad:Option Addr) (ct:Nat) h1 h2=>applied_long val h8 hsh x5 k5 (Tm.put L1 k (Tm.others R2)) ad ct (by omega) hp8.out V h1 h2)
        have haq:=hid (fun (V:World) (hV:Below W1.heap.size W1 V) h1=>applied_long val h8 hsh x5 k5 R1 aR cR (by omega) (Tm.known8 eR) V h1 (hI2.out V hV))
        have hxl:=Tm.applied_le hsh (Tm.put L1 k (Tm.others R2))
        have hyl:=Tm.applied_le hsh R1
        have hx0:Hid (0 < (Tm.applied val R1).length):=by
         have:=Tm.applied_more hsub R1 fun s hs=>(Tm.known_mem eR hs).1
         have:=Tm.err_pos eR
         show 0 < _
         omega
        have hXpos:Hid (0 < (Tm.applied val (Tm.put L1 k (Tm.others R2))).length):=by
         have h1:=Tm.applied_more hsub (Tm.put L1 k (Tm.others R2)) fun s hs=>by
          rcases Tm.put_signs hs with h | h
          ·exact (Tm.known_mem eL h).1
          ·exact (Tm.known_mem eO2 h).1
         have h2:=Tm.put_length (zs:=L1) (us:=Tm.others R2) hlt
         have h3:=Tm.err_pos eO2
         show 0 < _
         omega
        have hx8:Hid (∀ s∈Tm.applied val (Tm.put L1 k (Tm.others R2))++Tm.applied val R1,-8≤s):=Tm.applied8 hsub
        have H8:=hid h8
        clear hSays hsub h8 hfe hsh
        generalize Tm.applied val (Tm.put L1 k (Tm.others R2)) = X at *
        generalize Tm.applied val R1 = Y at *
        generalize Tm.put L1 k (Tm.others R2) = pt at *
        have hXI:(X.length:Int)≤2000:=by omega
        have hYI:(Y.length:Int)≤2000:=by omega
        rw [H8.out]
        obtain ⟨hx05,hx15⟩:=hbx.out _ hB5.out
        go_wp2_with fail
        refine hput.out.mono ?_
        rintro e w6 ⟨v6,rfl,n6,b6⟩
        obtain ⟨x6,k6,rfl,i6,_⟩:=New.ints n6
        have b6k:=hid b6
        have hB6:=hid (hB5.out.trans (b6.mono hB5.out.size))
        have S6:=hid ((HSub.out.below b6).mono b6.size)
        have nL6:=hid (New.below nL5.out b6)
        have nR6:=hid (New.below nR5.out b6)
        have nQ6:=hid (nQ5.out.below b6)
        clear hput n6 HSub nL5 nR5 nQ5 iR5 b6
        go_wp2_with fail
        refine (hap.out _ _ _ S6.out i6).mono ?_
        rintro e w7 ⟨v7,rfl,n7,b7⟩
        obtain ⟨x7,k7,rfl,i7,_⟩:=New.ints n7
        have hB7:=hid (hB6.out.trans (b7.mono hB6.out.size))
        have S7:=hid ((S6.out.below b7).mono b7.size)
        have nL7:=hid (New.below nL6.out b7)
        have nR7:=hid (New.below nR6.out b7)
        have nQ7:=hid (nQ6.out.below b7)
        obtain ⟨_,hx1'⟩:=hbx.out _ hB7.out
        clear hap n7 i6 S6 nL6 nR6 nQ6
        go_wp2_with fail
        refine (haq.out _ hB7.out S7.out).mono ?_
        rintro e w8 ⟨v8,rfl,n8,b8⟩
        obtain ⟨x8,k8,rfl,i8,_⟩:=New.ints n8
        have hB8:=hid (hB7.out.trans (b8.mono hB7.out.size))
        have nL8:=hid (New.below nL7.out b8)
        have nR8:=hid (New.below nR7.out b8)
        have nQ8:=hid (nQ7.out.below b8)
        have i7':=hid ((i7.below b8).mono b8.size)
        have i8':=hid i8
        clear haq n8 i7 i8 S7 nL7 nR7 nQ7
        rcases hprt.out with ⟨h1,h2,h3,h4,h5⟩ | ⟨hbig,h3⟩
        ·have h1':(X.length:Int)≤30:=by omega
         have h2':(Y.length:Int)≤30:=by omega
         have hY0:=hx0.out
         have H3:=hid (hyes.out h3)
         have H4:=hid h4
         have hXp:0 < X.length:=by
          have h:=hXpos.out
          omega
         obtain ⟨b7',o7',rfl,_⟩:=i7'.out.at hXp
         obtain ⟨b8',o8',rfl,_⟩:=i8'.out.at hY0
         have hl0:Hid (New w8.heap.size (w8.alloc (.cells #[] 3)) (.slice (some ⟨w8.heap.size,0,none⟩) 0 0) []):=New.lit w8.heap.size w8 [] (Nat.le_refl _) (by unfold maxLen;simp)
         have hA0:Hid (Below w8.heap.size w8 (w8.alloc (.cells #[] 3))):=(Below.refl _ _).alloc (Nat.le_refl _) _
         obtain ⟨Z,hZ⟩:∃ Z,X++Y = Z:=⟨_,rfl⟩
         have hZl:Z.length = X.length+Y.length:=by rw [← hZ,List.length_append]
         have hpln:=hid (fun (V:World) (ad:Option Addr) (ct:Nat) h=>refplain_long Z ad ct V (by omega) (by omega) (fun q hq=>by rw [List.getElem?_eq_getElem hq];exact hx8.out _ (by rw [hZ];exact List.getElem_mem hq)) h)
         have hpll:Hid ((Tm.plain Z).length = X.length+Y.length):=by
          show _ = _
          unfold Tm.plain
          rw [Tm.plainTo_length,hZl]
         rw [hZ] at h5
         have H5:=hid h5
         have HZ:=hid hZ
         have HZl:=hid hZl
         clear hZ hZl
         clear hyes hbad h3 h4 h5 hx8 hprt hx0 hXpos
         go_wp2_with (first
          | (at_builtin;refine wp_append_ints _ rfl _ _ rfl w8.heap.size _ [] rfl hl0.out _ X _ rfl (fun e=>by cases e) ((i7'.out.below hA0.out).mono hA0.out.size) (by simp;omega) hA0.out.size ?_;intro v9 w9 n9 b9;obtain ⟨x9,k9,rfl,_⟩:=New.ints n9;have hA9:=hid (hA0.out.trans b9);rw [List.nil_append] at n9)
          | (at_builtin;refine wp_append_ints _ rfl _ _ rfl w8.heap.size _ X rfl n9 _ Y _ rfl (fun e=>by cases e) ((i8'.out.below hA9.out).mono hA9.out.size) (by omega) hA9.out.size ?_;intro v10 w10 n10 b10;rw [HZ.out] at n10;obtain ⟨x10,k10,rfl,i10,_⟩:=New.ints n10;have hA10:=hid (hA9.out.trans b10))
          | (go_at_call 95;refine (hpln.out _ _ _ i10).mono ?_;rintro e w11 ⟨v11,rfl,n11,b11⟩;have hA11:=hid (hA10.out.trans (b11.mono hA10.out.size));obtain ⟨x11,k11,rfl,hir,hk1,hk2⟩:=IntRow.of n11))
         have hP2:=hid (hpll.out)
         obtain ⟨g11,k11',e11,_,_⟩:=New.at0 n11 (by have:=hpll.out;omega)
         cases e11
         have hV1:Hid ((Tm.prtVal val L1 R1 (k:Int) (Tm.others R2)).1 = (Tm.plain Z).take X.length):=by show _ = _;rw [← H5.out,← H4.out,List.take_left]
         have hV2:Hid ((Tm.prtVal val L1 R1 (k:Int) (Tm.others R2)).2 = (Tm.plain Z).drop X.length):=by show _ = _;rw [← H5.out,← H4.out,List.drop_left]
         have hir':=hid (hir.mono (show W1.heap.size≤w10.heap.size from by have h2:=hB8.out.size;have h3:=hA10.out.size;omega))
         have nQ11:=hid (nQ8.out.below hA11.out)
         have nL11:=hid (New.below nL8.out hA11.out)
         have nR11:=hid (New.below nR8.out hA11.out)
         have hB11:=hid (hB8.out.trans (hA11.out.mono hB8.out.size))
         have hll:l.length≤1000:=by have:=hLp.out.len;omega
         clear n11 hir hA11 hA10 hA9 hA0 b11 b10 n10 n9 i10 b9 nQ8 nL8 nR8 i7' i8' hB8
         generalize Tm.plain Z = PZ at *
         have hk1':(PZ.length:Int)≤(k11:Int):=by omega
         have hPZ:(PZ.length:Int) = (X.length:Int)+(Y.length:Int):=by have:=hpll.out;omega
         have hXP:(X.length:Int)≤(PZ.length:Int):=by omega
         have hXk:(X.length:Int)≤(k11:Int):=by omega
         have hkz:¬ k11 - X.length = 0:=by omega
         have hkz2:¬ k11 = X.length:=by omega
         have hq1:Hid ((PZ.take X.length).length≤X.length):=by show _≤_;rw [List.length_take];omega
         have hq2:Hid ((PZ.drop X.length).length≤k11 - X.length):=by show _≤_;rw [List.length_drop];omega
         have hdl:Hid (PZ.length - X.length = (PZ.drop X.length).length):=(List.length_drop).symm
         have htl:Hid (X.length = (PZ.take X.length).length):=by show _ = _;rw [List.length_take];omega
         have HPZ:=hid hPZ
         clear hPZ
         have hkm:k11≤9223372036854775807:=hk2
         have hkm':(k11:Int)≤9223372036854775807:=by omega
         have hnw:W1.heap.size≤w11.heap.size:=hB11.out.size
         have hq11:Hid (∀ V:World,V.heap = (w11.alloc (.cells #[.slice (some ⟨g11,0,none⟩) X.length X.length,.slice (some ⟨g11,X.length,none⟩) (PZ.length - X.length) (k11 - X.length)] 40)).heap→NewQ W1.heap.size V (.slice vq l.length cq) l):=fun V hV=>nQ11.out.keepB fun q hq=>by rw [hV,Below.heap_alloc _ _ _ hq]
         have hblk:Hid (∀ V:World,V.heap = (w11.alloc (.cells #[.slice (some ⟨g11,0,none⟩) X.length X.length,.slice (some ⟨g11,X.length,none⟩) (PZ.length - X.length) (k11 - X.length)] 40)).heap→V.heap[w11.heap.size]? = some (.cells #[.slice (some ⟨g11,0,none⟩) X.length X.length,.slice (some ⟨g11,X.length,none⟩) (PZ.length - X.length) (k11 - X.length)] 40)):=fun V hV=>by rw [hV];exact World.alloc_heap_new w11 _
         have hir1:Hid (∀ V:World,V.heap = (w11.alloc (.cells #[.slice (some ⟨g11,0,none⟩) X.length X.length,.slice (some ⟨g11,X.length,none⟩) (PZ.length - X.length) (k11 - X.length)] 40)).heap→IntRow W1.heap.size V (some ⟨g11,0,none⟩) (PZ.take X.length)):=fun V hV=>(hir'.out.take X.length).keep fun q _ ⟨_,_,hc⟩=>by rw [hV,Below.heap_alloc _ _ _ (Array.getElem?_eq_some_iff.1 hc).1]
         have hir2:Hid (∀ V:World,V.heap = (w11.alloc (.cells #[.slice (some ⟨g11,0,none⟩) X.length X.length,.slice (some ⟨g11,X.length,none⟩) (PZ.length - X.length) (k11 - X.length)] 40)).heap→IntRow W1.heap.size V (some ⟨g11,X.length,none⟩) (PZ.drop X.length)):=fun V hV=>by
          have h:=hir'.out.drop X.length
          rw [Nat.zero_add] at h
          exact h.keep fun q _ ⟨_,_,hc⟩=>by rw [hV,Below.heap_alloc _ _ _ (Array.getElem?_eq_some_iff.1 hc).1]
         go_region_held3 (fun _=>True) (first | trivial)
          ((refine step_append_pairq _ (by rfl) _ _ (by rfl) W1.heap.size (.slice vq l.length cq) l (by rfl) (hq11.out _ (by rfl)) w11.heap.size (some ⟨g11,0,none⟩) (some ⟨g11,X.length,none⟩) (PZ.take X.length) (PZ.drop X.length) X.length (PZ.length - X.length) X.length (k11 - X.length) htl.out hdl.out (by rfl) (hblk.out _ (by rfl)) (hir1.out _ (by rfl)) (hir2.out _ (by rfl)) hq1.out (by unfold maxLen;omega) hq2.out (by unfold maxLen;omega) (by omega) (by simp;omega) ?_;intro g12 c12 w12 n12 hg12 b12))
         have nL12:=hid (New.past nL11.out (V:=(w11.alloc (.cells #[.slice (some ⟨g11,0,none⟩) X.length X.length,.slice (some ⟨g11,X.length,none⟩) (PZ.length - X.length) (k11 - X.length)] 40)).drew) (fun q hq=>Below.heap_alloc _ _ _ hq) (hq11.out _ rfl) hg12)
         have nR12:=hid (New.past nR11.out (V:=(w11.alloc (.cells #[.slice (some ⟨g11,0,none⟩) X.length X.length,.slice (some ⟨g11,X.length,none⟩) (PZ.length - X.length) (k11 - X.length)] 40)).drew) (fun q hq=>Below.heap_alloc _ _ _ hq) (hq11.out _ rfl) hg12)
         have hB12:Hid (Below W1.heap.size W1 w12):=(hB11.out.trans (below_drewN ((Below.refl _ _).alloc hnw _) 1)).trans b12
         have hPV:Hid (Tm.prtVal val L1 R1 (k:Int) (Tm.others R2) = (PZ.take X.length,PZ.drop X.length)):=Prod.ext hV1.out hV2.out
         clear hq11 hblk hir1 hir2 hg12 b12
         go_wp2
         go_roundw
         case rel =>
          have h3:=H3.out
          rw [hPV.out] at h3
          exact ⟨k+1,_,by omega,by go_num,h3,n12,hB12,nL12,nR12⟩
         case measure=>simp [intOf];omega
        ·have hs:=hid (hbad.out h3)
         clear hprt hyes hbad h3
         by_cases hb1:30 < X.length
         ·have hb1':(30:Int) < (X.length:Int):=by omega
          clear hbig hb1
          go_wp2
          go_ret2
          exact ⟨HB1.out.trans (hB8.out.mono HB1.out.size),2,[],_,hs.out,rfl,NewQ.nil _ _⟩
         ·have hb1':decide ((30:Int) < (X.length:Int)) = false:=by simp;omega
          have hb2':(30:Int) < (Y.length:Int):=by omega
          clear hbig hb1
          go_wp2
          go_ret2
          exact ⟨HB1.out.trans (hB8.out.mono HB1.out.size),2,[],_,hs.out,rfl,NewQ.nil _ _⟩
      ·have hs:=hid (show Tm.LapsSays L1 R1 (Tm.others L2) (Tm.others R2) (Tm.passB L1 (i:Int) (j:Int)) er [] from .inr ⟨⟨her,k,l,hlt,hLp.out,Hp.out,.inl ⟨is,val,hSays⟩⟩,rfl⟩)
       have hne:(er != 0) = true:=by simpa using her
       clear hSays her HSub
       go_wp2
       go_ret2
       exact ⟨hbF.out,er,[],_,hs.out,rfl,NewQ.nil _ _⟩
   ·obtain rfl:k = L1.length:=by omega
    go_wp2
    go_ret2
    exact ⟨HB1.out.trans (hBk.out.mono HB1.out.size),0,l,_,.inl ⟨rfl,hLp.out⟩,rfl,hNQ.out.mono HB1.out.size⟩)
theorem Tm.others_run (t:List Int):∀ n,Tm.run (Tm.others t) n = Tm.run t n:=by
 induction t with
 | nil=>intro n;rfl
 | cons s l ih =>
  intro n
  cases n with
  | zero=>rw [Tm.run_zero,Tm.run_zero]
  | succ n =>
   show Tm.run (Tm.oth s :: Tm.others l) (n+1) = _
   have hr:Tm.room (Tm.oth s) = Tm.room s:=by
    unfold Tm.oth
    by_cases hs:s < 0
    ·rw [if_pos hs,Wb.room_var hs,Wb.room_var (by omega)]
    ·rw [if_neg hs]
   rw [Tm.run_cons,Tm.run_cons,hr,ih]
theorem Tm.others_err {t:List Int} (h:Tm.err t = 0) (hf:t.any foreignB = false):Tm.err (Tm.others t) = 0:=by
 refine Tm.err_ok (by rw [Tm.others_length];exact Tm.err_len h) ?_ (by rw [Tm.others_run,Tm.others_length];exact Tm.err_run h)
 rw [List.all_eq_true]
 intro s hs
 obtain ⟨q,hq,rfl⟩:=List.mem_map.1 hs
 obtain ⟨h1,h2⟩:=Tm.known_mem h hq
 have h3:=List.any_eq_false.1 hf q hq
 simp only [foreignB,decide_eq_true_eq] at h3
 refine Tm.known_of ?_ ?_ <;> (unfold Tm.oth;split <;> omega)
theorem Tm.MeetSays.bad {ps:PairL} {er:Int} {is:Bool} {val:List (List Int)} (h:Tm.MeetSays ps er is val) (h0:Tm.firstPair ps = 0) (he:er≠0):er = 2:=by
 rcases h with ⟨h1,_⟩ | ⟨_,_,h,_⟩ | ⟨_,_,_,_,h,_⟩ | ⟨_,_,_,_,h,_⟩
 ·exact absurd h0 h1
 ·exact absurd h he
 ·exact absurd h he
 ·exact h
theorem Tm.LapsErr.two {L1 R1 L2 R2:List Int} {pass:Nat→Bool} {e:Int} (h:Tm.LapsErr L1 R1 L2 R2 pass e) (e1:Tm.err L1 = 0) (eR:Tm.err R1 = 0) (e2:Tm.err L2 = 0) (eR2:Tm.err R2 = 0):e = 2:=by
 obtain ⟨h0,m,l,hm,hl,hp,⟨is,val,hs⟩ | ⟨val,hs,he⟩⟩:=h
 ·exact hs.bad (by rw [Tm.firstPair_one,Tm.pairErr_zero];exact ⟨Tm.part_err e1 hm,e2⟩) h0
 ·obtain ⟨hsub,_⟩:=Tm.meet_true hs
  rcases Tm.prt_ref (val:=val) hsub e1 eR eR2 hm with ⟨_,_,h3,_⟩ | ⟨_,h3⟩
  ·rw [h3] at he;exact absurd he.symm h0
  ·rw [h3] at he;exact he.symm
theorem Tm.LapsSays.one {L1 R1 L2 R2:List Int} {pass:Nat→Bool} {e e':Int} {ps ps':PairL} (h:Tm.LapsSays L1 R1 L2 R2 pass e ps) (h':Tm.LapsSays L1 R1 L2 R2 pass e' ps') (e1:Tm.err L1 = 0) (eR:Tm.err R1 = 0) (e2:Tm.err L2 = 0) (eR2:Tm.err R2 = 0):e = e'∧ps = ps':=by
 have h2:=h
 rcases h with ⟨rfl,hl⟩ | ⟨hb,rfl⟩
 ·obtain ⟨a,b⟩:=h'.right hl
  exact ⟨a.symm,b.symm⟩
 ·have h3:=h'
  rcases h' with ⟨rfl,hl⟩ | ⟨hb',rfl⟩
  ·obtain ⟨a,b⟩:=h2.right hl
   exact absurd a hb.1
  ·rw [hb.two e1 eR e2 eR2,hb'.two e1 eR e2 eR2]
   exact ⟨rfl,rfl⟩
theorem Tm.OfSays.one {rs:RuleL} {i j er er':Int} {ps ps':PairL} (h:Tm.OfSays rs i j er ps) (h':Tm.OfSays rs i j er' ps'):er = er'∧ps = ps':=by
 rcases h with ⟨h1,rfl,rfl⟩ | ⟨h1,h2,rfl,rfl⟩ | ⟨h1,a,b,ha,hb,rfl,rfl,h2⟩ <;> rcases h' with ⟨k1,rfl,rfl⟩ | ⟨k1,k2,rfl,rfl⟩ | ⟨k1,c,d,hc,hd,e1,e2,k2⟩
 ·exact ⟨rfl,rfl⟩
 ·exact absurd k1 h1
 ·exact absurd k1 h1
 ·exact absurd h1 k1
 ·exact ⟨rfl,rfl⟩
 ·exact absurd ⟨by omega,by omega,by omega,by omega⟩ h2
 ·exact absurd h1 k1
 ·exact absurd ⟨by omega,by omega,by omega,by omega⟩ k2
 ·obtain rfl:a = c:=by omega
  obtain rfl:b = d:=by omega
  obtain ⟨_,hall⟩:=Tm.rulesErr_ok h1
  obtain ⟨eL,eR,_⟩:=Tm.ruleErr_ok (hall a ha)
  obtain ⟨eL2,eR2,fL,fR,_⟩:=Tm.ruleErr_ok (hall b hb)
  exact h2.one k2 eL eR (Tm.others_err eL2 fL) (Tm.others_err eR2 fR)
set_option maxRecDepth 100000 in
set_option maxHeartbeats 1000000 in
theorem samePairs_yes (ps:PairL) (a b:Option Addr) (ca cb:Nat) (w:World) (hA:RulesAt w.heap.size w a ps) (hB:RulesAt w.heap.size w b ps) (hl:ps.length≤1000) (h30:∀ k,k < ps.length→(ps[k]?.getD ([],[])).1.length≤1000∧(ps[k]?.getD ([],[])).2.length≤1000) :
 Calls Tryz.prog 10 #[.slice a ps.length ca,.slice b ps.length cb] w fun e w'=>e = .returned (.bool true)∧Below w.heap.size w w':=by
 have hl':(ps.length:Int)≤1000:=by omega
 have hne:((ps.length:Int) != (ps.length:Int)) = false:=by simp
 have HA:=hid hA
 have HB:=hid hB
 have H30:=hid h30
 clear hA hB h30
 go_enter Tryz.func10,Tryz.ntmps10
 go_wp2
 go_loopw [5] (fun i wr=>∃ k:Nat,k≤ps.length∧i = .int .i64 (k:Int)∧Below w.heap.size w wr) (fun i _=>ps.length - (intOf i).toNat)
 case atStart=>exact ⟨0,Nat.zero_le _,rfl,Below.refl _ _⟩
 case round =>
  obtain ⟨k,hk,rfl,hBk⟩:=hrel
  by_cases hlt:k < ps.length
  ·have hlt':(k:Int) < (ps.length:Int):=by omega
   obtain ⟨b1,o1,rfl,_,aL,cL,aR,cR,c1,c2,i1,i2,_⟩:=(HA.out.below hBk) k hlt
   obtain ⟨b2,o2,rfl,_,aL2,cL2,aR2,cR2,d1,d2,j1,j2,_⟩:=(HB.out.below hBk) k hlt
   obtain ⟨l1,l2⟩:=H30.out k hlt
   have HS1:=hid (fun n:Nat=>same_quiet (ps[k]?.getD ([],[])).1 (ps[k]?.getD ([],[])).1 aL aL2 cL cL2 w.heap.size (wr.drewN n) i1 j1 (by omega))
   have HS2:=hid (fun n:Nat=>same_quiet (ps[k]?.getD ([],[])).2 (ps[k]?.getD ([],[])).2 aR aR2 cR cR2 w.heap.size (wr.drewN n) i2 j2 (by omega))
   rw [show sameB (ps[k]?.getD ([],[])).1 (ps[k]?.getD ([],[])).1 = true by simp [sameB]] at HS1
   rw [show sameB (ps[k]?.getD ([],[])).2 (ps[k]?.getD ([],[])).2 = true by simp [sameB]] at HS2
   clear i1 i2 j1 j2 l1 l2
   generalize (ps[k]?.getD ([],[])).1.length = n1 at *
   generalize (ps[k]?.getD ([],[])).2.length = n2 at *
   go_wp2
   go_quiet ((first
    | (go_at_call_of 25 (Value.slice aL n1 cL);exact Calls.quiet_of (HS1.out _))
    | (go_at_call_of 25 (Value.slice aR n2 cR);exact Calls.quiet_of (HS2.out _))))
   go_wp2
   go_roundw
   case rel=>exact ⟨k+1,by omega,by go_num,below_drewN hBk _⟩
   case measure=>simp [intOf];omega
  ·obtain rfl:k = ps.length:=by omega
   go_wp2
   go_ret
   exact ⟨rfl,hBk⟩
def RefOfAns (rs:RuleL) (i j:Int) (w:World) (e:Ending) (w':World):Prop:=Below w.heap.size w w'∧∃ er ps v,Tm.OfSays rs i j er ps∧e = .returned (.tuple #[v,.int .i64 er])∧NewQ w.heap.size w' v ps
theorem refof_idx (rs:RuleL) (i j:Nat) (hi:i < rs.length) (hj:j < rs.length) (a:Option Addr) (cap:Nat) (w:World) (hr:Tm.rulesErr rs = 0) (hR:RulesAt w.heap.size w a rs) :
 Calls Tryz.prog 88 #[.slice a rs.length cap,.int .i64 (i:Int),.int .i64 (j:Int)] w fun e w'=>RefOfAns rs (i:Int) (j:Int) w e w':=by
 obtain ⟨h8,hall⟩:=Tm.rulesErr_ok hr
 obtain ⟨eL,eR,_⟩:=Tm.ruleErr_ok (hall i hi)
 obtain ⟨eL2,eR2,fL,fR,_⟩:=Tm.ruleErr_ok (hall j hj)
 refine (refof_right (rs[i]?.getD ([],[])).1 (rs[i]?.getD ([],[])).2 (rs[j]?.getD ([],[])).1 (rs[j]?.getD ([],[])).2 rs i j hi hj a cap w h8 hR rfl rfl eL eR eL2 eR2 (Tm.others_err eL2 fL) (Tm.others_err eR2 fR)).mono ?_
 rintro e w' ⟨hB,er,ps,v,hs,rfl,hN⟩
 exact ⟨hB,er,ps,v,.inr (.inr ⟨hr,i,j,hi,hj,rfl,rfl,hs⟩),rfl,hN⟩
end Go.Proofs.YtglohanbpjaieaaGreat
