/-
  Parts of the proof: Clo19, Clo20, Clo21, Rst4.
-/
import Derived.Test.YtglohanbpjaieaaGreatBrt17
import Derived.Test.YtglohanbpjaieaaGreatBrt11
import Derived.Test.YtglohanbpjaieaaGreatBrt29
import Derived.Deep.RegionHeld3
import Derived.Test.YtglohanbpjaieaaGreatBrt20
import Derived.Test.YtglohanbpjaieaaGreatBrt25
import Derived.Test.YtglohanbpjaieaaGreatBrt6
import Derived.Test.YtglohanbpjaieaaGreatBrt19
namespace Go.Proofs.YtglohanbpjaieaaGreat
open Go.Proofs Go.RowKit Go.Shelf Go.Maps Go.Deep
def RulesZ (w:World) (a:Option Addr) (len cap:Nat):Prop:=RulesIn w a len cap∧(a = none→cap = 0)
theorem rulesZ_open {H:Type} {enc:TypeId × Value→H} {w:World} {fuel:Nat} {a:Option Addr} {len cap:Nat} {cs:List Value} {x:DataW H × List MemPlace} {t e:TypeId} {f0 f1:Field} (ht:Tryz.prog.underlying t = some (.slice e)) (he:Tryz.prog.underlying e = some (.struct #[f0,f1]))
 (ce:Tryz.prog.cellsOf e = 2) (o0:f0.offset = 0) (o1:f1.offset = 1) (t0:f0.type = 35) (t1:f1.type = 35) (hcs:cs = [.slice a len cap]) (h:DataW.trod enc Tryz.prog w 0 (fun _=>true) true fuel t cs = some x):RulesZ w a len cap:=by
 refine ⟨rulesIn_open ht he ce o0 o1 t0 t1 hcs h,fun ha=>?_⟩
 have c1:Tryz.prog.cellsOf 35 = 1:=by kernel_rfl
 rcases open_slice_pairs ht he ce o0 o1 (by rw [t0];exact c1) (by rw [t1];exact c1) h with ⟨hc,_⟩ | ⟨ad,l,c,m,n,V0,V1,D0,D1,P0,P1,hc,_⟩
 ·rw [hcs] at hc
  simp only [List.cons.injEq,Value.slice.injEq,and_true] at hc
  exact hc.2.2
 ·rw [hcs] at hc
  simp only [List.cons.injEq,Value.slice.injEq,and_true] at hc
  rw [ha] at hc
  cases hc.1
theorem olds_cells {n:Nat} {w:World} {ad:Addr} {qs:PairL} (h:RulesAt n w (some ad) qs):∃ us:List Value,us.length = qs.length * 2∧(∀ j u,us[j]? = some u→w.cell? (ad.add j) = some u)∧(∀ u∈us,∃ a n c,u = .slice a n c) ∧
 ∀ j,j < qs.length→∃ aL cL aR cR,us[j * 2]? = some (.slice aL (qs[j]?.getD ([],[])).1.length cL)∧us[j * 2+1]? = some (.slice aR (qs[j]?.getD ([],[])).2.length cR)∧Ints n w aL (qs[j]?.getD ([],[])).1∧Ints n w aR (qs[j]?.getD ([],[])).2∧(qs[j]?.getD ([],[])).1.length≤cL∧cL≤maxLen∧(qs[j]?.getD ([],[])).2.length≤cR∧cR≤maxLen:=by
 have key:∀ k,k < qs.length→∃ aL cL aR cR,w.cell? (ad.add (k * 2)) = some (.slice aL (qs[k]?.getD ([],[])).1.length cL)∧w.cell? (ad.add (k * 2+1)) = some (.slice aR (qs[k]?.getD ([],[])).2.length cR)∧Ints n w aL (qs[k]?.getD ([],[])).1∧Ints n w aR (qs[k]?.getD ([],[])).2∧(qs[k]?.getD ([],[])).1.length≤cL∧cL≤maxLen∧(qs[k]?.getD ([],[])).2.length≤cR∧cR≤maxLen:=fun k hk=>by
  obtain ⟨b,off,e,_,aL,cL,aR,cR,g1,g2,r⟩:=h k hk
  cases e
  exact ⟨aL,cL,aR,cR,by rw [Go.WideShapes.add_plain];exact g1,by rw [Go.WideShapes.add_plain];exact g2,r⟩
 have each:∀ j,j < qs.length * 2→∃ a m c,w.cell? (ad.add j) = some (.slice a m c):=fun j hj=>by
  obtain ⟨aL,cL,aR,cR,g1,g2,_⟩:=key (j / 2) (by omega)
  rcases Nat.mod_two_eq_zero_or_one j with h0 | h0
  ·rw [show j / 2 * 2 = j by omega] at g1;exact ⟨_,_,_,g1⟩
  ·rw [show j / 2 * 2+1 = j by omega] at g2;exact ⟨_,_,_,g2⟩
 have get:∀ j,j < qs.length * 2→((List.range (qs.length * 2)).map fun j=>(w.cell? (ad.add j)).getD (.bool true))[j]? = w.cell? (ad.add j):=fun j hj=>by
  obtain ⟨a,m,c,e⟩:=each j hj
  rw [List.getElem?_map,List.getElem?_range hj,Option.map_some,e,Option.getD_some]
 refine ⟨(List.range (qs.length * 2)).map fun j=>(w.cell? (ad.add j)).getD (.bool true),by simp,fun j u hj=>?_,fun u hu=>?_,fun j hj=>?_⟩
 ·have hl:j < qs.length * 2:=by simpa using (List.getElem?_eq_some_iff.1 hj).1
  rw [get j hl] at hj
  exact hj
 ·obtain ⟨j,hj,rfl⟩:=List.mem_map.1 hu
  rw [List.mem_range] at hj
  obtain ⟨a,m,c,e⟩:=each j hj
  exact ⟨a,m,c,by rw [e];rfl⟩
 ·obtain ⟨aL,cL,aR,cR,g1,g2,r⟩:=key j hj
  exact ⟨aL,cL,aR,cR,(get _ (by omega)).trans g1,(get _ (by omega)).trans g2,r⟩
theorem wp_olds_r {ops:Array Oper} {rest:List Oper} {o:Oper} {a:Act} {Q:Exit→Act→World→Prop} (w:World) (hgd:o.guard = none) (s x:Operand)
 (ho:o.op = .call { callee:=.builtin .append,args:=#[s,x],argTypes:=#[23,23] }) (sb eb:Nat) (hse:eb≤sb) (v:Value) (ps:PairL) (hs:a.eval s = v) (hN:NewX true 54 sb eb w v ps)
 (a2:Option Addr) (c2:Nat) (qs:PairL) (hx:a.eval x = .slice a2 qs.length c2) (hn:a2 = none→c2 = 0) (hM:RulesAt eb w a2 qs) (hew:eb≤w.heap.size) (hlen:ps.length+qs.length≤100000) (hbase:sb≤w.heap.size)
 (h:∀ v' w',NewX true 54 sb eb w' v' (ps++qs)→w.grownBy w' v.ownBlock→Below sb w w'→wpList Tryz.prog ops Q rest (a.put o.dst v') w'):wpList Tryz.prog ops Q (o :: rest) a w:=by
 obtain ⟨i0,hi,hz0,hz1,hz2⟩:=info_parts Tryz.info54
 obtain ⟨us,h1,h2⟩:=hN
 have hul:us.length = ps.length * 2:=h1.1
 cases a2 with
 | none =>
  have hc:=hn rfl
  obtain rfl:qs = []:=by
   cases qs with
   | nil=>rfl
   | cons q l=>obtain ⟨b,off,e,_⟩:=hM 0 (by simp);cases e
  subst hc
  exact wpList_append_own_none hgd s x 23 ho sb 54 i0 2 Tryz.underlying23 hi v ps.length us hs h1 hx (h v w (by rw [List.append_nil];exact ⟨us,h1,h2⟩) ⟨rfl,rfl,rfl,Nat.le_refl _,fun _ _ _=>rfl⟩ (Below.refl _ _))
 | some ad =>
  obtain ⟨us',hu1,hu2,hu3,hu4⟩:=olds_cells hM
  refine wpList_append_own w hgd s x 23 ho sb 54 i0 (.agg #[.slice none 0 0,.slice none 0 0]) 2 48 Tryz.underlying23 hi hz0 hz1 hz2 rfl (by decide) v ps.length us hs h1 ad qs.length c2 us' hx hu1 hu2
   (by intro u hu;obtain ⟨_,_,_,rfl⟩:=hu3 u hu;rfl) (by unfold maxLen;omega) (by omega) hbase ?_
  intro v' w' hown hg _
  have hr:∀ k,v.ownBlock = some k→eb≤k∧∃ cs,w.heap[k]? = some (.cells cs 54 (0,0)):=fun k hk=>⟨Nat.le_trans hse (World.ownsRow.lt h1 k hk).1,own_type h1 hk⟩
  have hk:∀ {a:Option Addr} {zs:List Int},IntR true eb w a zs→IntR true eb w' a zs:=fun h=>h.grown (by decide) hg hr
  refine h v' w' ⟨us++us',by simpa using hown,fun j hj=>?_⟩ hg ((Below.refl sb w).grown hg hbase (fun k e=>(World.ownsRow.lt h1 k e).1))
  by_cases hjl:j < ps.length
  ·obtain ⟨y,yc,y',yc',q1,q2,n1,n2,r⟩:=h2 j hjl
   rw [List.getElem?_append_left hjl,List.getElem?_append_left (by omega),List.getElem?_append_left (by omega)]
   exact ⟨y,yc,y',yc',q1,q2,hk n1,hk n2,r⟩
  ·have hj2:j - ps.length < qs.length:=by rw [List.length_append] at hj;omega
   obtain ⟨y,yc,y',yc',q1,q2,n1,n2,r⟩:=hu4 (j - ps.length) hj2
   rw [List.getElem?_append_right (by omega),List.getElem?_append_right (by omega),List.getElem?_append_right (by omega),hul]
   rw [show j * 2 - ps.length * 2 = (j - ps.length) * 2 by omega,show j * 2+1 - ps.length * 2 = (j - ps.length) * 2+1 by omega]
   exact ⟨y,yc,y',yc',q1,q2,hk (IntR.old n1 hew (Below.refl _ _)),hk (IntR.old n2 hew (Below.refl _ _)),r⟩
theorem wp_olds_p {ops:Array Oper} {rest:List Oper} {o:Oper} {a:Act} {Q:Exit→Act→World→Prop} (w:World) (hgd:o.guard = none) (s x:Operand)
 (ho:o.op = .call { callee:=.builtin .append,args:=#[s,x],argTypes:=#[24,24] }) (sb eb:Nat) (hse:eb≤sb) (v:Value) (ps:PairL) (hs:a.eval s = v) (hN:NewX true 40 sb eb w v ps)
 (a2:Option Addr) (c2:Nat) (qs:PairL) (hx:a.eval x = .slice a2 qs.length c2) (hn:a2 = none→c2 = 0) (hM:RulesAt eb w a2 qs) (hew:eb≤w.heap.size) (hlen:ps.length+qs.length≤100000) (hbase:sb≤w.heap.size)
 (h:∀ v' w',NewX true 40 sb eb w' v' (ps++qs)→w.grownBy w' v.ownBlock→Below sb w w'→wpList Tryz.prog ops Q rest (a.put o.dst v') w'):wpList Tryz.prog ops Q (o :: rest) a w:=by
 obtain ⟨i0,hi,hz0,hz1,hz2⟩:=info_parts Tryz.info40
 obtain ⟨us,h1,h2⟩:=hN
 have hul:us.length = ps.length * 2:=h1.1
 cases a2 with
 | none =>
  have hc:=hn rfl
  obtain rfl:qs = []:=by
   cases qs with
   | nil=>rfl
   | cons q l=>obtain ⟨b,off,e,_⟩:=hM 0 (by simp);cases e
  subst hc
  exact wpList_append_own_none hgd s x 24 ho sb 40 i0 2 Tryz.underlying24 hi v ps.length us hs h1 hx (h v w (by rw [List.append_nil];exact ⟨us,h1,h2⟩) ⟨rfl,rfl,rfl,Nat.le_refl _,fun _ _ _=>rfl⟩ (Below.refl _ _))
 | some ad =>
  obtain ⟨us',hu1,hu2,hu3,hu4⟩:=olds_cells hM
  refine wpList_append_own w hgd s x 24 ho sb 40 i0 (.agg #[.slice none 0 0,.slice none 0 0]) 2 48 Tryz.underlying24 hi hz0 hz1 hz2 rfl (by decide) v ps.length us hs h1 ad qs.length c2 us' hx hu1 hu2
   (by intro u hu;obtain ⟨_,_,_,rfl⟩:=hu3 u hu;rfl) (by unfold maxLen;omega) (by omega) hbase ?_
  intro v' w' hown hg _
  have hr:∀ k,v.ownBlock = some k→eb≤k∧∃ cs,w.heap[k]? = some (.cells cs 40 (0,0)):=fun k hk=>⟨Nat.le_trans hse (World.ownsRow.lt h1 k hk).1,own_type h1 hk⟩
  have hk:∀ {a:Option Addr} {zs:List Int},IntR true eb w a zs→IntR true eb w' a zs:=fun h=>h.grown (by decide) hg hr
  refine h v' w' ⟨us++us',by simpa using hown,fun j hj=>?_⟩ hg ((Below.refl sb w).grown hg hbase (fun k e=>(World.ownsRow.lt h1 k e).1))
  by_cases hjl:j < ps.length
  ·obtain ⟨y,yc,y',yc',q1,q2,n1,n2,r⟩:=h2 j hjl
   rw [List.getElem?_append_left hjl,List.getElem?_append_left (by omega),List.getElem?_append_left (by omega)]
   exact ⟨y,yc,y',yc',q1,q2,hk n1,hk n2,r⟩
  ·have hj2:j - ps.length < qs.length:=by rw [List.length_append] at hj;omega
   obtain ⟨y,yc,y',yc',q1,q2,n1,n2,r⟩:=hu4 (j - ps.length) hj2
   rw [List.getElem?_append_right (by omega),List.getElem?_append_right (by omega),List.getElem?_append_right (by omega),hul]
   rw [show j * 2 - ps.length * 2 = (j - ps.length) * 2 by omega,show j * 2+1 - ps.length * 2 = (j - ps.length) * 2+1 by omega]
   exact ⟨y,yc,y',yc',q1,q2,hk (IntR.old n1 hew (Below.refl _ _)),hk (IntR.old n2 hew (Below.refl _ _)),r⟩
set_option maxRecDepth 100000 in
set_option maxHeartbeats 1000000 in
theorem sameRules_yes (ps:PairL) (a b:Option Addr) (ca cb:Nat) (w:World) (hA:RulesAt w.heap.size w a ps) (hB:RulesAt w.heap.size w b ps) (hl:ps.length≤1000) (h30:∀ k,k < ps.length→(ps[k]?.getD ([],[])).1.length≤1000∧(ps[k]?.getD ([],[])).2.length≤1000) :
 Calls Tryz.prog 9 #[.slice a ps.length ca,.slice b ps.length cb] w fun e w'=>e = .returned (.bool true)∧Below w.heap.size w w':=by
 have hl':(ps.length:Int)≤1000:=by omega
 have hne:((ps.length:Int) != (ps.length:Int)) = false:=by simp
 have HA:=hid hA
 have HB:=hid hB
 have H30:=hid h30
 clear hA hB h30
 go_enter Tryz.func9,Tryz.ntmps9
 go_wp2
 go_loopw [5] (fun i wr=>∃ k:Nat,k≤ps.length∧i = .int .i64 (k:Int)∧Below w.heap.size w wr) (fun i _=>ps.length - (intOf i).toNat)
 case atStart=>exact ⟨0,Nat.zero_le _,rfl,Below.refl _ _⟩
 case round =>
  obtain ⟨k,hk,rfl,hBk⟩:=hrel
  by_cases hlt:k < ps.length
  ·have hlt':(k:Int) < (ps.length:Int):=by omega
   obtain ⟨b1,o1,rfl,_,aL,cL,aR,cR,c1,c2,i1,i2,_⟩:=(HA.out.below hBk) k hlt
   obtain ⟨b2,o2,rfl,_,aL2,cL2,aR2,cR2,d1,d2,j1,j2,_⟩:=(HB.out.below hBk) k hlt
   obtain ⟨l1,l2⟩:=H30.out k hlt
   have HS1:=hid (fun n:Nat=>same_quiet (ps[k]?.getD ([],[])).1 (ps[k]?.getD ([],[])).1 aL aL2 cL cL2 w.heap.size (wr.drewN n) i1 j1 (by omega))
   have HS2:=hid (fun n:Nat=>same_quiet (ps[k]?.getD ([],[])).2 (ps[k]?.getD ([],[])).2 aR aR2 cR cR2 w.heap.size (wr.drewN n) i2 j2 (by omega))
   rw [show sameB (ps[k]?.getD ([],[])).1 (ps[k]?.getD ([],[])).1 = true by simp [sameB]] at HS1
   rw [show sameB (ps[k]?.getD ([],[])).2 (ps[k]?.getD ([],[])).2 = true by simp [sameB]] at HS2
   clear i1 i2 j1 j2 l1 l2
   generalize (ps[k]?.getD ([],[])).1.length = n1 at *
   generalize (ps[k]?.getD ([],[])).2.length = n2 at *
   go_wp2
   go_quiet ((first
    | (go_at_call_of 25 (Value.slice aL n1 cL);exact Calls.quiet_of (HS1.out _))
    | (go_at_call_of 25 (Value.slice aR n2 cR);exact Calls.quiet_of (HS2.out _))))
   go_wp2
   go_roundw
   case rel=>exact ⟨k+1,by omega,by go_num,below_drewN hBk _⟩
   case measure=>simp [intOf];omega
  ·obtain rfl:k = ps.length:=by omega
   go_wp2
   go_ret
   exact ⟨rfl,hBk⟩
end Go.Proofs.YtglohanbpjaieaaGreat
namespace Go.Proofs.YtglohanbpjaieaaGreat
open Go.Proofs Go.RowKit Go.Shelf Go.Maps
def Tm.GrowSays (rs:RuleL) (ps:PairL) (A B:List Int) (er:Int) (rs':RuleL) (ps':PairL):Prop :=
 (Tm.plErr A≠0∧er = Tm.plErr A∧rs' = []∧ps' = [])∨(Tm.plErr A = 0∧Tm.WithSays rs ps (Tm.plain A) (Tm.plain2 A B) er rs' ps')
theorem IntR.drop {base:Nat} {W:World} {b off:Nat} {zs:List Int} (h:IntR true base W (some ⟨b,off,none⟩) zs) (k:Nat):IntR true base W (some ⟨b,off+k,none⟩) (zs.drop k):=fun j hj=>by
 rw [List.length_drop] at hj
 obtain ⟨b',off',e,h1,h2,h3⟩:=h (k+j) (by omega)
 cases e
 exact ⟨b,off+k,rfl,h1,h2,by rw [List.getElem?_drop,show off+k+j = off+(k+j) from by omega];exact h3⟩
theorem IntR.take {base:Nat} {W:World} {a:Option Addr} {zs:List Int} (h:IntR true base W a zs) (k:Nat):IntR true base W a (zs.take k):=fun j hj=>by
 rw [List.length_take] at hj
 obtain ⟨b',off',e,h1,h2,h3⟩:=h j (by omega)
 exact ⟨b',off',e,h1,h2,by rw [List.getElem?_take_of_lt (by omega)];exact h3⟩
theorem NewX.lit (e:TypeId) (sb eb:Nat) (W:World) (h:sb≤W.heap.size):NewX true e sb eb (W.alloc (.cells #[] e)) (.slice (some ⟨W.heap.size,0,none⟩) 0 0) [] :=
 ⟨[],⟨rfl,.inr ⟨W.heap.size,0,#[],rfl,h,World.alloc_heap_new W _,Nat.le_refl _,by unfold maxLen;omega,rfl,rfl⟩⟩,fun j hj=>by simp at hj⟩
theorem NewQ.x {base eb:Nat} {W:World} {v:Value} {ps:PairL} (h:NewQ base W v ps):NewX true 40 base eb W v ps:=by
 obtain ⟨us,h1,h2⟩:=h
 refine ⟨us,h1,fun j hj=>?_⟩
 obtain ⟨aL,cL,aR,cR,q1,q2,i1,i2,r⟩:=h2 j hj
 have hI:∀ {a:Option Addr} {zs:List Int},IntRow base W a zs→IntR true eb W a zs:=fun h j hj=>by
  obtain ⟨b,off,e,_,⟨cs,p,hb⟩,hc⟩:=h j hj
  exact ⟨b,off,e,.inr ⟨.inl rfl,cs,p,hb⟩,(Array.getElem?_eq_some_iff.1 hb).1,hc⟩
 exact ⟨aL,cL,aR,cR,q1,q2,hI i1,hI i2,r⟩
theorem NewX.same {e:TypeId} {sb eb:Nat} {W V:World} {v:Value} {ps:PairL} (h:NewX true e sb eb W v ps) (hV:V.heap = W.heap):NewX true e sb eb V v ps:=h.keep (by rw [hV];exact Nat.le_refl _) (fun q _=>by rw [hV]) fun b _ _=>by rw [hV]
theorem IntR.same {base:Nat} {W V:World} {a:Option Addr} {zs:List Int} (h:IntR true base W a zs) (hV:V.heap = W.heap):IntR true base V a zs:=h.keep (by rw [hV];exact Nat.le_refl _) fun b _ _=>by rw [hV]
theorem Tm.waysTo_at (n:Nat):∀ j k,k < j→(Tm.waysTo n j)[2 * k]? = some (k,n)∧(Tm.waysTo n j)[2 * k+1]? = some (n,k):=by
 intro j
 induction j with
 | zero=>intro k hk;omega
 | succ j ih =>
  intro k hk
  have hl:=Tm.waysTo_len n j
  rw [Tm.waysTo_succ]
  by_cases e:k = j
  ·subst e
   rw [List.getElem?_append_right (by omega),List.getElem?_append_right (by omega),hl,Nat.sub_self,show 2 * k+1 - 2 * k = 1 by omega]
   exact ⟨rfl,rfl⟩
  ·rw [List.getElem?_append_left (by omega),List.getElem?_append_left (by omega)]
   exact ih k (by omega)
theorem Tm.ways_at {n k:Nat} (h:k≤n):(Tm.ways n)[2 * k]?.getD (0,0) = (k,n):=by
 have hl:=Tm.waysTo_len n n
 unfold Tm.ways
 by_cases e:k = n
 ·subst e
  rw [List.getElem?_append_right (by omega),hl,Nat.sub_self]
  rfl
 ·rw [List.getElem?_append_left (by omega),(Tm.waysTo_at n n k (by omega)).1]
  rfl
theorem Tm.ways_at1 {n k:Nat} (h:k < n):(Tm.ways n)[2 * k+1]?.getD (0,0) = (n,k):=by
 have hl:=Tm.waysTo_len n n
 unfold Tm.ways
 rw [List.getElem?_append_left (by omega),(Tm.waysTo_at n n k h).2]
 rfl
set_option maxRecDepth 100000 in
set_option maxHeartbeats 8000000 in
theorem refGrow_any (rk : List Int) (rs : RuleL) (ps : PairL) (A B : List Int) (al ae aA aB : Option Addr) (cl ce cA cB : Nat) (w : World) (hk : Tm.rankErr rk = 0) (hr : Tm.rulesErr rs = 0) (eA : Tm.err A = 0) (eB : Tm.err B = 0) (ha : Tm.aboveVal rk A B = true) (h40 : ps.length ≤ 40)
    (hL : RulesAt w.heap.size w al rs) (hP : RulesAt w.heap.size w ae ps) (hn : ae = none → ce = 0) (hA : Ints w.heap.size w aA A) (hB : Ints w.heap.size w aB B) :
    Calls Tryz.prog 65 #[.slice al rs.length cl, .slice ae ps.length ce, .slice aA A.length cA, .slice aB B.length cB] w fun e w' => ∃ er rs' ps' v u, Tm.GrowSays rs ps A B er rs' ps' ∧ e = .returned (.tuple #[v, u, .int .i64 er]) ∧ NewX true 54 w.heap.size w.heap.size w' v rs' ∧ NewX true 40 w.heap.size w.heap.size w' u ps' ∧ Below w.heap.size w w' := by
  have lA := Tm.err_len eA
  have lB := Tm.err_len eB
  have pA := Tm.err_pos eA
  have pB := Tm.err_pos eB
  have lA' : (A.length : Int) ≤ 30 := by omega
  have lB' : (B.length : Int) ≤ 30 := by omega
  obtain ⟨h8, hall⟩ := Tm.rulesErr_ok hr
  have h8' : (rs.length : Int) ≤ 8 := by omega
  obtain ⟨bA, oA, rfl⟩ : ∃ b o, aA = some ⟨b, o, none⟩ := by obtain ⟨x, y, e, _⟩ := hA.at pA; exact ⟨x, y, e⟩
  obtain ⟨bB, oB, rfl⟩ : ∃ b o, aB = some ⟨b, o, none⟩ := by obtain ⟨x, y, e, _⟩ := hB.at pB; exact ⟨x, y, e⟩
  obtain ⟨Z, hZ⟩ : ∃ Z, A ++ B = Z := ⟨_, rfl⟩
  have hZl : Z.length = A.length + B.length := by rw [← hZ, List.length_append]
  have hpl : Hid ((Tm.plain Z).length = A.length + B.length) := by
    show _ = _
    unfold Tm.plain
    rw [Tm.plainTo_length, hZl]
  have hboth : Hid (Tm.plain A ++ Tm.plain2 A B = Tm.plain Z) := by
    show _ = _
    rw [Sn.both, hZ]
    rfl
  have hpA : Hid ((Tm.plain A).length = A.length) := by show _ = _; unfold Tm.plain; exact Tm.plainTo_length _ _ _
  have hown := hid (Tm.own_plErr hk eA eB ha)
  have hrule := hid (fun h0 => Tm.plain_rule hk eA eB ha h0)
  rw [hboth.out] at hown
  have hV1 : Hid (Tm.plain A = (Tm.plain Z).take A.length) := by show _ = _; rw [← hboth.out, ← hpA.out, List.take_left]
  have hV2 : Hid (Tm.plain2 A B = (Tm.plain Z).drop A.length) := by show _ = _; rw [← hboth.out, ← hpA.out, List.drop_left]
  have hpln := hid (fun (V : World) (ad : Option Addr) (ct : Nat) h => refplain_long Z ad ct V (by omega) (by omega) (fun q hq => by
    rw [List.getElem?_eq_getElem hq]
    simp only [Option.getD_some]
    rcases List.mem_append.1 (by rw [hZ]; exact List.getElem_mem hq : Z[q] ∈ A ++ B) with h | h
    · exact (Tm.known_mem eA h).1
    · exact (Tm.known_mem eB h).1) h)
  have hl0 : Hid (New w.heap.size (w.alloc (.cells #[] 3)) (.slice (some ⟨w.heap.size, 0, none⟩) 0 0) []) := New.lit w.heap.size w [] (Nat.le_refl _) (by unfold maxLen; simp)
  have hA0 : Hid (Below w.heap.size w (w.alloc (.cells #[] 3))) := (Below.refl _ _).alloc (Nat.le_refl _) _
  have HZ := hid hZ
  have HA := hid hA
  have HB := hid hB
  have HL := hid hL
  have HP := hid hP
  have Hall := hid hall
  clear hZ hA hB hL hP hall hZl ha hk hr
  go_enter Tryz.func65, Tryz.ntmps65
  go_wp2_with (first
    | (at_builtin; refine wp_append_ints _ rfl _ _ rfl w.heap.size _ [] rfl hl0.out _ A _ rfl (fun e => by cases e) ((HA.out.below hA0.out).mono hA0.out.size) (by simp; omega) hA0.out.size ?_; intro v9 w9 n9 b9; obtain ⟨x9, k9, rfl, _⟩ := New.ints n9; have hA9 := hid (hA0.out.trans b9); rw [List.nil_append] at n9)
    | (at_builtin; refine wp_append_ints _ rfl _ _ rfl w.heap.size _ A rfl n9 _ B _ rfl (fun e => by cases e) ((HB.out.below hA9.out).mono hA9.out.size) (by omega) hA9.out.size ?_; intro v10 w10 n10 b10; rw [HZ.out] at n10; obtain ⟨x10, k10, rfl, i10, _⟩ := New.ints n10; have hA10 := hid (hA9.out.trans b10))
    | (go_at_call 95; refine (hpln.out _ _ _ i10).mono ?_; rintro e w11 ⟨v11, rfl, n11, b11⟩; have hA11 := hid (hA10.out.trans (b11.mono hA10.out.size)))
    | (go_at_call 40; fail))
  obtain ⟨x11, k11, rfl, hir, hk1, hk2⟩ := IntR.new (fl := true) (base := w.heap.size) n11 (.inl rfl)
  obtain ⟨g11, k11', e11, _, _⟩ := New.at0 n11 (by have := hpl.out; omega)
  cases e11
  have hO := hid (refOwn_any (Tm.plain Z) (some ⟨g11, 0, none⟩) k11 w11 hir.ints (by omega))
  have hir' := hid hir
  clear hpln hl0 hA0 HA HB hA9 hA10 n9 n10 n11 i10 b9 b10 b11 hir
  cases hf : (Tm.plain Z).any foreignB with
  | true =>
    rw [hf, if_pos rfl] at hown
    rw [hf] at hO
    have hs : Hid (Tm.GrowSays rs ps A B 3 [] []) := .inl ⟨by rw [hown.out]; decide, hown.out.symm, rfl, rfl⟩
    clear hf hown hrule
    generalize Tm.plain Z = PZ at *
    refine hO.out.mono ?_
    rintro e w11 ⟨rfl, rfl⟩
    go_wp2
    go_ret3
    exact ⟨3, [], [], _, _, hs.out, rfl, NewX.nil _ _ _ _, NewX.nil _ _ _ _, hA11.out⟩
  | false =>
    rw [hf, if_neg (by decide)] at hown
    rw [hf] at hO
    have hr1 := hid (hrule.out hown.out)
    have hSay : Hid (∀ er rs' ps', Tm.WithSays rs ps (Tm.plain A) (Tm.plain2 A B) er rs' ps' → Tm.GrowSays rs ps A B er rs' ps') := fun er rs' ps' h => .inr ⟨hown.out, h⟩
    rw [hV1.out, hV2.out] at hSay hr1
    clear hf hown hrule hV1 hV2 hboth hpA
    generalize Tm.plain Z = PZ at *
    have hk1' : (PZ.length : Int) ≤ (k11 : Int) := by omega
    have hPZ : (PZ.length : Int) = (A.length : Int) + (B.length : Int) := by have := hpl.out; omega
    have hXP : (A.length : Int) ≤ (PZ.length : Int) := by omega
    have hXk : (A.length : Int) ≤ (k11 : Int) := by omega
    have hkz : ¬ k11 - A.length = 0 := by omega
    have hkz2 : ¬ k11 = A.length := by omega
    have hdl : Hid (PZ.length - A.length = (PZ.drop A.length).length) := (List.length_drop).symm
    have htl : Hid (A.length = (PZ.take A.length).length) := by show _ = _; rw [List.length_take]; omega
    have HPZ := hid hPZ
    clear hPZ
    have hkm : k11 ≤ 9223372036854775807 := hk2
    have hkm' : (k11 : Int) ≤ 9223372036854775807 := by omega
    refine hO.out.mono ?_
    rintro e w11 ⟨rfl, rfl⟩
    clear hO
    go_wp2
    go_region_held3 (fun _ => True) (first | trivial) (fail)
    obtain ⟨W12, hW12⟩ : ∃ W12, (w11.alloc (.cells #[.slice (some ⟨g11, 0, none⟩) A.length A.length, .slice (some ⟨g11, A.length, none⟩) (PZ.length - A.length) (k11 - A.length)] 54)).drew = W12 := ⟨_, rfl⟩
    rw [hW12]
    obtain ⟨L, hLe⟩ : ∃ L, PZ.take A.length = L := ⟨_, rfl⟩
    obtain ⟨R, hRe⟩ : ∃ R, PZ.drop A.length = R := ⟨_, rfl⟩
    have iL0 := hir'.out.take A.length
    have iR0 := hir'.out.drop A.length
    rw [Nat.zero_add] at iR0
    rw [hLe] at hSay hr1 htl iL0
    rw [hRe] at hSay hr1 hdl iR0
    have hBa : Below w11.heap.size w11 W12 := by rw [← hW12]; exact below_drewN ((Below.refl _ _).alloc (Nat.le_refl _) _) 1
    have bx : Box2 W12 w11.heap.size 54 (.slice (some ⟨g11, 0, none⟩) L.length A.length) (.slice (some ⟨g11, A.length, none⟩) R.length (k11 - A.length)) := by
      rw [← hW12, ← htl.out, ← hdl.out]
      exact Box2.new w11 _ _ _
    have B12 := hA11.out.trans (hBa.mono hA11.out.size)
    obtain ⟨n, hn11⟩ : ∃ n, n = w11.heap.size := ⟨_, rfl⟩
    have hbn : w.heap.size ≤ n := by rw [hn11]; exact hA11.out.size
    have hn12 : n < W12.heap.size := by rw [hn11]; exact bx.lt
    rw [← hn11] at bx ⊢
    have I12 : Hid (WiInv true w.heap.size n w (.slice none 0 0) [] (some ⟨g11, 0, none⟩) (some ⟨g11, A.length, none⟩) A.length (k11 - A.length) L R (.slice (some ⟨W12.heap.size, 0, none⟩) 0 0) (.slice none 0 0) [] [] (W12.alloc (.cells #[] 40))) := by
      have hAl : Below W12.heap.size W12 (W12.alloc (.cells #[] 40)) := (Below.refl _ _).alloc (Nat.le_refl _) _
      exact ⟨NewX.lit _ _ _ _ B12.size, NewX.nil _ _ _ _, NewX.nil _ _ _ _, bx.alloc _, (iL0.below hBa).below hAl, (iR0.below hBa).below hAl, B12.trans (hAl.mono B12.size)⟩
    have hP13 : Hid (RulesAt w.heap.size (W12.alloc (.cells #[] 40)) ae ps) := HP.out.below I12.out.kp
    have cL1 : Hid (L.length ≤ A.length) := by show _ ≤ _; have := htl.out; omega
    have cR1 : Hid (R.length ≤ k11 - A.length) := by show _ ≤ _; have := hdl.out; omega
    have pL : Hid (0 < L.length) := by show _ < _; have := htl.out; omega
    have eLR := hid (Tm.ruleErr_ok hr1.out.1)
    have hcm : A.length ≤ maxLen := by unfold maxLen; omega
    have hcm2 : k11 - A.length ≤ maxLen := by unfold maxLen; omega
    clear hW12 hLe hRe htl hdl hir' iL0 iR0 hBa bx B12 hn11 hA11 HPZ hpl hk1 hk1' hXP hXk hkz hkz2 hkm hkm' hk2 HZ
    go_wp2_with (at_builtin; go_loud (refine wp_olds_p _ rfl _ _ rfl w.heap.size w.heap.size (Nat.le_refl _) _ [] rfl I12.out.ne ae ce ps rfl hn hP13.out I12.out.kp.size (by simp; omega) I12.out.kp.size ?_); intro v14 w14 hN14 hg14 hB14; have I14 := hid (I12.out.pair hg14 hB14 hN14); obtain ⟨a14, c14, rfl⟩ := hN14.slice; clear hN14 hg14 hB14 I12)
    go_loopw [13, 14, 15] (fun xs xe v wr => ∃ k : Nat, k ≤ rs.length ∧ v = .int .i64 (k : Int) ∧ Hid (WiInv true w.heap.size n w (.slice none 0 0) [] (some ⟨g11, 0, none⟩) (some ⟨g11, A.length, none⟩) A.length (k11 - A.length) L R xe xs (ps ++ Tm.taken L (rs.take k)) (Tm.stays L (rs.take k)) wr)) (fun _ _ v _ => rs.length - (intOf v).toNat)
    case atStart => exact ⟨0, Nat.zero_le _, rfl, by simpa [Tm.taken, Tm.stays] using I14⟩
    case round =>
      obtain ⟨k, hk, rfl, hI⟩ := hrel
      obtain ⟨ya, yc, rfl⟩ := hI.out.ne.slice
      obtain ⟨za, zc, rfl⟩ := hI.out.ns.slice
      clear I14
      by_cases hlt : k < rs.length
      · have hlt' : (k : Int) < (rs.length : Int) := by omega
        obtain ⟨bq, off, rfl, hbq, aP, cP, aQ, cQ, g1, g2, g3, g4, g5, g6, g7, g8⟩ := (HL.out.below hI.out.kp) k hlt
        have eP := (Tm.ruleErr_ok (Hall.out k hlt)).1
        have hs1 := hid (Tm.stays_snoc (L := L) hlt)
        have hs2 := hid (show ps ++ Tm.taken L (rs.take (k + 1)) = (ps ++ Tm.taken L (rs.take k)) ++ (if Tm.takenB L ((rs[k]?.getD ([], [])).1, (rs[k]?.getD ([], [])).2) = true then [((rs[k]?.getD ([], [])).1, (rs[k]?.getD ([], [])).2)] else []) by rw [Tm.taken_snoc (L := L) hlt, List.append_assoc])
        have hl1 : (ps ++ Tm.taken L (rs.take k)).length ≤ 48 := by have := Tm.taken_le L (rs.take k); rw [List.length_append]; rw [List.length_take] at this; omega
        have hl2 : (Tm.stays L (rs.take k)).length ≤ 8 := by have := Tm.stays_le L (rs.take k); rw [List.length_take] at this; omega
        have hov : Hid (Tm.takenB L ((rs[k]?.getD ([], [])).1, (rs[k]?.getD ([], [])).2) = decide (0 < (Tm.overVal (rs[k]?.getD ([], [])).1 L).length)) := rfl
        generalize (rs[k]?.getD ([], [])).1 = P at *
        generalize (rs[k]?.getD ([], [])).2 = Q at *
        generalize ps ++ Tm.taken L (rs.take k) = pt at *
        generalize Tm.stays L (rs.take k) = sk at *
        generalize Tm.takenB L (P, Q) = tb at *
        have y1 := hI.out.bx.cell0
        have hnw : n < wr.heap.size := hI.out.bx.lt
        have hsw : w.heap.size ≤ wr.heap.size := hI.out.kp.size
        have hBW := Below.refl wr.heap.size wr
        have hS0 : wr.cell? ⟨bq, off + k * 2, none⟩ = some (.slice aP P.length cP) ∧ wr.cell? ⟨n, 0, none⟩ = some (.slice (some ⟨g11, 0, none⟩) L.length A.length) := ⟨g1, y1⟩
        have hSS := hid (fun V (hV : Below wr.heap.size wr V) => (⟨(hV.cell (p := ⟨bq, off + k * 2, none⟩) (by show bq < _; omega)).trans g1, (hV.cell (p := ⟨n, 0, none⟩) hnw).trans y1⟩ : V.cell? ⟨bq, off + k * 2, none⟩ = some (.slice aP P.length cP) ∧ V.cell? ⟨n, 0, none⟩ = some (.slice (some ⟨g11, 0, none⟩) L.length A.length)))
        have hSR := hid (fun V (hV : Below wr.heap.size wr V) => (show V.cell? ⟨bq, off + k * 2, none⟩ = some (.slice aP P.length cP) ∧ V.cell? ⟨bq, off + k * 2 + 1, none⟩ = some (.slice aQ Q.length cQ) from ⟨(hV.cell (p := ⟨bq, off + k * 2, none⟩) (by show bq < _; omega)).trans g1, (hV.cell (p := ⟨bq, off + k * 2 + 1, none⟩) (by show bq < _; omega)).trans g2⟩))
        have hC := hid (fun V (hV : Below wr.heap.size wr V) => (overOf_any P L aP (some ⟨g11, 0, none⟩) cP A.length V ((g3.mono hsw).below hV |>.mono hV.size) ((hI.out.iL.ints.below hV).mono hV.size) ⟨g5, g6⟩ ⟨cL1.out, hcm⟩).mono (fun e w' ⟨v, p1, p2, p3⟩ => (⟨v, p1, p2, hV.trans (p3.mono hV.size)⟩ : ∃ v, e = Ending.returned (.tuple #[v, .int .i64 (Tm.fitErr P L)]) ∧ New V.heap.size w' v (Tm.overVal P L) ∧ Below wr.heap.size wr w')))
        have iP := hid (fun V (hV : Below wr.heap.size wr V) => (show IntR true w.heap.size V aP P from IntR.old g3 (Nat.le_trans hsw hV.size) (hV.mono hsw)))
        have iQ := hid (fun V (hV : Below wr.heap.size wr V) => (show IntR true w.heap.size V aQ Q from IntR.old g4 (Nat.le_trans hsw hV.size) (hV.mono hsw)))
        generalize Tm.overVal P L = ov at *
        generalize Tm.fitErr P L = fe at *
        clear g1 g2 g3 g4 y1
        go_wp2
        go_region_held3 (fun w' => w'.cell? ⟨bq, off + k * 2, none⟩ = some (.slice aP P.length cP) ∧ w'.cell? ⟨n, 0, none⟩ = some (.slice (some ⟨g11, 0, none⟩) L.length A.length)) (first | assumption | exact hS0)
          ((go_at_call 96; refine (hC.out _ (by first | exact hBW | exact below_drewN hBW 1)).mono ?_; rintro e w3 ⟨v3, rfl, hN3, b3⟩; obtain ⟨x3, d3, rfl, _⟩ := New.ints hN3; have s3 := hSS.out _ b3))
        have I3 := hid (hI.out.below (Nat.le_refl _) b3)
        have hR3 := hSR.out _ b3
        have hov0 : Hid (ov.length = ov.length) := rfl
        have hnw3 : n < w3.heap.size := I3.out.bx.lt
        have hsw3 : w.heap.size ≤ w3.heap.size := I3.out.kp.size
        clear hC hN3 s3 hS0 hSS hBW hI
        by_cases htk : 0 < ov.length
        · have htk' : (0 : Int) < (ov.length : Int) := by omega
          have htb : Hid (tb = true) := by show tb = true; rw [hov.out]; exact decide_eq_true htk
          rw [htb.out, if_pos rfl] at hs1 hs2
          rw [List.append_nil] at hs1
          have hN4 : Hid (∀ V : World, V.heap = (w3.alloc (.cells #[.slice aP P.length cP, .slice aQ Q.length cQ] 40)).heap → NewX true 40 w.heap.size w.heap.size V (.slice ya pt.length yc) pt) := fun V hV => (I3.out.ne.below ((Below.refl w3.heap.size w3).alloc (Nat.le_refl _) _)).same hV
          have hblk0 : Hid (∀ V : World, V.heap = (w3.alloc (.cells #[.slice aP P.length cP, .slice aQ Q.length cQ] 40)).heap → V.cell? ⟨w3.heap.size, 0, none⟩ = some (.slice aP P.length cP)) := fun V hV => (cell_at (show V.heap[w3.heap.size]? = _ by rw [hV]; exact World.alloc_heap_new w3 _) 0).trans rfl
          have hblk1 : Hid (∀ V : World, V.heap = (w3.alloc (.cells #[.slice aP P.length cP, .slice aQ Q.length cQ] 40)).heap → V.cell? ⟨w3.heap.size, 1, none⟩ = some (.slice aQ Q.length cQ)) := fun V hV => (cell_at (show V.heap[w3.heap.size]? = _ by rw [hV]; exact World.alloc_heap_new w3 _) 1).trans rfl
          have hA3 : Below wr.heap.size wr (w3.alloc (.cells #[.slice aP P.length cP, .slice aQ Q.length cQ] 40)) := b3.alloc b3.size _
          have hi4 : Hid (∀ V : World, V.heap = (w3.alloc (.cells #[.slice aP P.length cP, .slice aQ Q.length cQ] 40)).heap → IntR true w.heap.size V aP P ∧ IntR true w.heap.size V aQ Q) := fun V hV => ⟨(iP.out _ hA3).same hV, (iQ.out _ hA3).same hV⟩
          have hS4 := hid (fun (V : World) (hV : V.heap = (w3.alloc (.cells #[.slice aP P.length cP, .slice aQ Q.length cQ] 40)).heap) => (show V.cell? ⟨bq, off + k * 2, none⟩ = some (.slice aP P.length cP) ∧ V.cell? ⟨bq, off + k * 2 + 1, none⟩ = some (.slice aQ Q.length cQ) from ⟨(World.cell?_of_block (a := ⟨bq, off + k * 2, none⟩) (by rw [hV])).trans (hSR.out _ hA3).1, (World.cell?_of_block (a := ⟨bq, off + k * 2 + 1, none⟩) (by rw [hV])).trans (hSR.out _ hA3).2⟩))
          have hS5 : Hid (∀ (V V' : World), V.heap = (w3.alloc (.cells #[.slice aP P.length cP, .slice aQ Q.length cQ] 40)).heap → Below w.heap.size V V' → V'.cell? ⟨bq, off + k * 2, none⟩ = some (.slice aP P.length cP) ∧ V'.cell? ⟨bq, off + k * 2 + 1, none⟩ = some (.slice aQ Q.length cQ)) := fun V V' hV hB => ⟨(hB.cell (p := ⟨bq, off + k * 2, none⟩) hbq).trans (hS4.out V hV).1, (hB.cell (p := ⟨bq, off + k * 2 + 1, none⟩) hbq).trans (hS4.out V hV).2⟩
          clear htk
          go_wp2
          go_region_held3 (fun w' => w'.cell? ⟨bq, off + k * 2, none⟩ = some (.slice aP P.length cP) ∧ w'.cell? ⟨bq, off + k * 2 + 1, none⟩ = some (.slice aQ Q.length cQ)) (first | assumption | exact hR3 | exact hS4.out _ (by rfl))
            ((refine step_app_p _ (by rfl) _ _ (by rfl) w.heap.size w.heap.size (Nat.le_refl _) (.slice ya pt.length yc) pt (by rfl) (hN4.out _ (by rfl)) w3.heap.size aP aQ P Q cP cQ (by rfl) (hblk0.out _ (by rfl)) (hblk1.out _ (by rfl)) (hi4.out _ (by rfl)).1 (hi4.out _ (by rfl)).2 g5 g6 g7 g8 (by omega) (by simp; omega) ?_; intro gg cc w5 hN5 hg5 hB5; have s5 := hS5.out _ _ (by rfl) hB5))
          all_goals (
            have I5 := hid ((I3.out.below (Nat.le_refl _) (below_drewN ((Below.refl w3.heap.size w3).alloc (Nat.le_refl _) (.cells #[.slice aP P.length cP, .slice aQ Q.length cQ] 40)) 1)).pair hg5 hB5 hN5)
            clear s5 hN5 hg5 hB5 hN4 hblk0 hblk1 hi4 hS4 hS5 I3
            go_wp2
            go_roundw
            case rel => exact ⟨k + 1, by omega, by go_num, by rw [hs1.out, hs2.out]; simpa [Hid] using I5⟩
            case measure => simp [intOf]; omega)
        · have htk' : ¬ (0 : Int) < (ov.length : Int) := by omega
          have htb : Hid (tb = false) := by show tb = false; rw [hov.out]; exact decide_eq_false htk
          rw [htb.out, if_neg (by simp)] at hs1 hs2
          rw [List.append_nil] at hs2
          obtain ⟨t0, t1⟩ := hR3
          have hA := (Below.refl w3.heap.size w3).alloc (Nat.le_refl _) (.cells #[.slice aP P.length cP, .slice aQ Q.length cQ] 54)
          have I4 := hid (I3.out.below (Nat.le_refl _) hA)
          have blk := World.alloc_heap_new w3 (.cells #[.slice aP P.length cP, .slice aQ Q.length cQ] 54)
          have HB0 := hid ((cell_at blk 0).trans rfl : (w3.alloc (.cells #[.slice aP P.length cP, .slice aQ Q.length cQ] 54)).cell? ⟨w3.heap.size, 0, none⟩ = some (.slice aP P.length cP))
          have HB1 := hid ((cell_at blk 1).trans rfl : (w3.alloc (.cells #[.slice aP P.length cP, .slice aQ Q.length cQ] 54)).cell? ⟨w3.heap.size, 1, none⟩ = some (.slice aQ Q.length cQ))
          have hA3 := b3.trans (hA.mono b3.size)
          have iP4 := hid (iP.out _ hA3)
          have iQ4 := hid (iQ.out _ hA3)
          clear htk blk hA hA3
          go_wp2_with (at_builtin; go_loud (refine wp_app_r _ rfl _ _ rfl (n + 1) w.heap.size (by omega) _ sk rfl I4.out.ns w3.heap.size aP aQ P Q cP cQ rfl HB0.out HB1.out iP4.out iQ4.out g5 g6 g7 g8 (by omega) (by simp; omega) ?_); intro g5' c5' w5 hN5 hg5 hB5)
          have I5 := hid (I4.out.rule hbn (fun k hk => by cases hk) hg5 hB5 hN5)
          clear hN5 hg5 hB5 I4 I3
          go_roundw
          case rel => exact ⟨k + 1, by omega, by go_num, by rw [hs1.out, hs2.out]; simpa [Hid] using I5⟩
          case measure => simp [intOf]; omega
      · obtain rfl : k = rs.length := by omega
        rw [List.take_length] at hI
        have hS : Hid (∀ er rs' ps', ((8 < (Tm.stays L rs).length + 1 ∧ er = 2 ∧ rs' = [] ∧ ps' = []) ∨
  ((Tm.stays L rs).length + 1 ≤ 8 ∧ ∃ e q, Tm.LastSays (Tm.stays L rs ++ [(L, R)]) (Tm.ways (Tm.stays L rs).length) e q ∧
    ((e ≠ 0 ∧ er = e ∧ rs' = [] ∧ ps' = []) ∨ (e = 0 ∧ 40 < (ps ++ Tm.taken L rs ++ q).length ∧ er = 2 ∧ rs' = [] ∧ ps' = []) ∨ (e = 0 ∧ (ps ++ Tm.taken L rs ++ q).length ≤ 40 ∧ er = 0 ∧ rs' = Tm.stays L rs ++ [(L, R)] ∧ ps' = ps ++ Tm.taken L rs ++ q)))) → Tm.GrowSays rs ps A B er rs' ps') := fun er rs' ps' h => hSay.out er rs' ps' h
        have hl1 : (ps ++ Tm.taken L rs).length ≤ 48 := by have := Tm.taken_le L rs; rw [List.length_append]; omega
        have hl2 : (Tm.stays L rs).length ≤ 8 := by have := Tm.stays_le L rs; omega
        have hrs : Hid ((Tm.stays L rs).length + 1 ≤ 8 → Tm.rulesErr (Tm.stays L rs ++ [(L, R)]) = 0) := fun h => by
          unfold Tm.rulesErr
          rw [if_neg (by rw [List.length_append]; simp; omega)]
          refine Tm.firstRule_of fun x hx => ?_
          rcases List.mem_append.1 hx with hx | hx
          · obtain ⟨j, hj, rfl⟩ := List.getElem_of_mem (List.mem_filter.1 hx).1
            have := Hall.out j hj
            rwa [List.getElem?_eq_getElem hj] at this
          · simp only [List.mem_cons, List.not_mem_nil, or_false] at hx
            subst hx
            exact hr1.out.1
        rw [List.take_length]
        generalize ps ++ Tm.taken L rs = pt at *
        generalize Tm.stays L rs = sk at *
        have y0 := hI.out.bx.cell0
        have y1 := hI.out.bx.cell1
        have hnw : n < wr.heap.size := hI.out.bx.lt
        have hsw : w.heap.size ≤ wr.heap.size := hI.out.kp.size
        have hA := (Below.refl wr.heap.size wr).alloc (Nat.le_refl _) (.cells #[.slice (some ⟨g11, 0, none⟩) L.length A.length, .slice (some ⟨g11, A.length, none⟩) R.length (k11 - A.length)] 54)
        have I4 := hid (hI.out.below (Nat.le_refl _) hA)
        have blk := World.alloc_heap_new wr (.cells #[.slice (some ⟨g11, 0, none⟩) L.length A.length, .slice (some ⟨g11, A.length, none⟩) R.length (k11 - A.length)] 54)
        have HB0 := hid ((cell_at blk 0).trans rfl : (wr.alloc (.cells #[.slice (some ⟨g11, 0, none⟩) L.length A.length, .slice (some ⟨g11, A.length, none⟩) R.length (k11 - A.length)] 54)).cell? ⟨wr.heap.size, 0, none⟩ = some (.slice (some ⟨g11, 0, none⟩) L.length A.length))
        have HB1 := hid ((cell_at blk 1).trans rfl : (wr.alloc (.cells #[.slice (some ⟨g11, 0, none⟩) L.length A.length, .slice (some ⟨g11, A.length, none⟩) R.length (k11 - A.length)] 54)).cell? ⟨wr.heap.size, 1, none⟩ = some (.slice (some ⟨g11, A.length, none⟩) R.length (k11 - A.length)))
        clear blk hA hI
        by_cases h9 : 8 < sk.length + 1
        · have h9' : (8 : Int) < (sk.length : Int) + 1 := by omega
          go_wp2_with (at_builtin; go_loud (refine wp_app_r _ rfl _ _ rfl (n + 1) w.heap.size (by omega) _ sk rfl I4.out.ns wr.heap.size (some ⟨g11, 0, none⟩) (some ⟨g11, A.length, none⟩) L R A.length (k11 - A.length) rfl HB0.out HB1.out I4.out.iL I4.out.iR cL1.out hcm cR1.out hcm2 (by omega) (by simp; omega) ?_); intro g5' c5' w5 hN5 hg5 hB5)
          have I5 := hid (I4.out.rule hbn (fun k hk => by cases hk) hg5 hB5 hN5)
          go_ret3
          exact ⟨2, [], [], _, _, hS.out _ _ _ (.inl ⟨h9, rfl, rfl, rfl⟩), rfl, NewX.nil _ _ _ _, NewX.nil _ _ _ _, I5.out.kp⟩
        · have h9' : ¬ (8 : Int) < (sk.length : Int) + 1 := by omega
          have hre := hid (hrs.out (by omega))
          have hsk : (sk.length : Int) ≤ 7 := by omega
          go_wp2_with (at_builtin; go_loud (refine wp_app_r _ rfl _ _ rfl (n + 1) w.heap.size (by omega) _ sk rfl I4.out.ns wr.heap.size (some ⟨g11, 0, none⟩) (some ⟨g11, A.length, none⟩) L R A.length (k11 - A.length) rfl HB0.out HB1.out I4.out.iL I4.out.iR cL1.out hcm cR1.out hcm2 (by omega) (by simp; omega) ?_); intro g5' c5' w5 hN5 hg5 hB5; have I5 := hid (I4.out.rule hbn (fun k hk => by cases hk) hg5 hB5 hN5); clear hN5 hg5 hB5)
          have hlr : Hid ((sk ++ [(L, R)]).length = sk.length + 1) := by show _ = _; simp
          have hwl := hid (Tm.ways_len sk.length)
          go_loopw [14, 19] (fun xe v X => ∃ (m : Nat) (l : PairL), m ≤ sk.length ∧ v = .int .i64 (m : Int) ∧ (∃ oa oc, xe = .slice oa (pt ++ l).length oc) ∧ Hid (Tm.LastTo (sk ++ [(L, R)]) (Tm.ways sk.length) (2 * m) l) ∧ Hid (WiInv true w.heap.size n w (.slice none 0 0) [] (some ⟨g11, 0, none⟩) (some ⟨g11, A.length, none⟩) A.length (k11 - A.length) L R xe (.slice (some ⟨g5', 0, none⟩) (sk.length + 1) c5') (pt ++ l) (sk ++ [(L, R)]) X)) (fun _ v _ => sk.length + 1 - (intOf v).toNat)
          case atStart => exact ⟨0, [], Nat.zero_le _, rfl, ⟨ya, yc, by rw [List.append_nil]⟩, Tm.LastTo.zero _ _, by simpa [Hid] using I5⟩
          case round =>
            obtain ⟨X, rfl⟩ : ∃ X, X = wr := ⟨wr, rfl⟩
            obtain ⟨m, l, hm, rfl, ⟨ea, ec, rfl⟩, hto, hI⟩ := hrel
            clear I5 y0 y1 HB0 HB1 I4
            have hlen := hto.out.len
            have hm' : (m : Int) ≤ (sk.length : Int) := by omega
            have hsk0 : (0 : Int) ≤ (sk.length : Int) := by omega
            obtain ⟨a6, c6, e6, hR6, _⟩ := hI.out.ns.at
            rw [hlr.out] at e6
            cases e6
            have hof := hid (fun V (hV : Below X.heap.size X V) (i j : Nat) (hi : i ≤ sk.length) (hj : j ≤ sk.length) => refof_idx (sk ++ [(L, R)]) i j (by rw [hlr.out]; omega) (by rw [hlr.out]; omega) (some ⟨g5', 0, none⟩) c5' V hre.out ((hR6.below hV).mono hV.size))
            rw [hlr.out] at hof
            have hnx := hid (fun qs (hs : Tm.OfSays (sk ++ [(L, R)]) (m : Int) (sk.length : Int) 0 qs) => hto.out.next (ps := qs) (by rw [Tm.ways_at hm]; exact hs))
            have hst : Hid (∀ er qs, er ≠ 0 → Tm.OfSays (sk ++ [(L, R)]) (m : Int) (sk.length : Int) er qs → Tm.LastSays (sk ++ [(L, R)]) (Tm.ways sk.length) er []) := fun er qs he hs => .inr ⟨he, rfl, 2 * m, qs, by have := hwl.out; omega, ⟨l, hto.out⟩, by rw [Tm.ways_at hm]; exact hs⟩
            have hst2 : Hid (∀ er qs l', m < sk.length → er ≠ 0 → Tm.LastTo (sk ++ [(L, R)]) (Tm.ways sk.length) (2 * m + 1) l' → Tm.OfSays (sk ++ [(L, R)]) (sk.length : Int) (m : Int) er qs → Tm.LastSays (sk ++ [(L, R)]) (Tm.ways sk.length) er []) := fun er qs l' h he hl hs => .inr ⟨he, rfl, 2 * m + 1, qs, by have := hwl.out; omega, ⟨l', hl⟩, by rw [Tm.ways_at1 h]; exact hs⟩
            have hX0 := hid (Below.refl X.heap.size X)
            clear hto hR6
            by_cases hmn : m = sk.length
            · have hmn' : ((m : Int) == (sk.length : Int)) = true := by simp [hmn]
              have Hmn := hid hmn
              clear hmn
              go_wp2_with fail
              refine (hof.out X hX0.out m sk.length hm (Nat.le_refl _)).mono ?_
              rintro e w6 ⟨b6, er, qs, v6, hs6, rfl, hN6⟩
              obtain ⟨a7, c7, rfl, _⟩ := hN6.at
              have I6 := hid (hI.out.below (Nat.le_refl _) b6)
              have M6 := hid (NewQ.x (eb := w.heap.size) hN6)
              have hs6w : w.heap.size ≤ w6.heap.size := I6.out.kp.size
              clear hN6 hI hof
              by_cases he : er = 0
              · subst he
                have hql := hs6.len.2
                have hLs : Hid (Tm.LastSays (sk ++ [(L, R)]) (Tm.ways sk.length) 0 (l ++ qs)) := by
                  have h := hnx.out qs hs6
                  rw [Hmn.out, ← hwl.out] at h
                  exact .inl ⟨rfl, h⟩
                clear hs6 hnx hst hst2
                by_cases h41 : 40 < (pt ++ (l ++ qs)).length
                · have h41' : (40 : Int) < (pt.length : Int) + (l.length : Int) + (qs.length : Int) := by rw [List.length_append, List.length_append] at h41; omega
                  have Hs := hid (hS.out 2 [] [] (.inr ⟨by omega, 0, l ++ qs, hLs.out, .inr (.inl ⟨rfl, h41, rfl, rfl, rfl⟩)⟩))
                  clear h41 hS hLs
                  rw [List.length_append]
                  go_wp2_with (at_builtin; go_loud (refine wp_apps_p _ rfl _ _ rfl w.heap.size w.heap.size (Nat.le_refl _) (.slice ea (pt.length + l.length) ec) (pt ++ l) rfl (by rw [← List.length_append]; exact I6.out.ne) _ qs rfl X.heap.size M6.out (by rw [List.length_append]; omega) hs6w ?_); intro v8 w8 hN8 hg8 hB8; obtain ⟨a8, c8, e8⟩ := hN8.slice; rw [List.length_append, List.length_append] at e8; subst e8)
                  go_ret3
                  exact ⟨2, [], [], _, _, Hs.out, rfl, NewX.nil _ _ _ _, NewX.nil _ _ _ _, I6.out.kp.trans hB8⟩
                · have h41' : ¬ (40 : Int) < (pt.length : Int) + (l.length : Int) + (qs.length : Int) := by rw [List.length_append, List.length_append] at h41; omega
                  have Hs := hid (hS.out 0 (sk ++ [(L, R)]) (pt ++ (l ++ qs)) (.inr ⟨by omega, 0, l ++ qs, hLs.out, .inr (.inr ⟨rfl, by omega, rfl, rfl, rfl⟩)⟩))
                  clear h41 hS hLs
                  rw [List.length_append]
                  go_wp2_with (at_builtin; go_loud (refine wp_apps_p _ rfl _ _ rfl w.heap.size w.heap.size (Nat.le_refl _) (.slice ea (pt.length + l.length) ec) (pt ++ l) rfl (by rw [← List.length_append]; exact I6.out.ne) _ qs rfl X.heap.size M6.out (by rw [List.length_append]; omega) hs6w ?_); intro v8 w8 hN8 hg8 hB8; have I8 := hid (I6.out.pair (by rw [List.length_append]; exact hg8) hB8 hN8); obtain ⟨a8, c8, e8⟩ := hN8.slice; rw [List.length_append, List.length_append] at e8; subst e8; clear hN8 hg8 hB8)
                  go_ret3
                  exact ⟨0, _, _, _, _, Hs.out, rfl, I8.out.ns.mono (by omega), (by rw [← List.append_assoc]; exact I8.out.ne), I8.out.kp⟩
              · have hne : (er != 0) = true := by simpa using he
                have Hs := hid (hS.out er [] [] (.inr ⟨by omega, er, [], hst.out er qs he hs6, .inl ⟨he, rfl, rfl, rfl⟩⟩))
                clear he hS hs6 hnx hst hst2
                go_wp2
                go_ret3
                exact ⟨er, [], [], _, _, Hs.out, rfl, NewX.nil _ _ _ _, NewX.nil _ _ _ _, I6.out.kp⟩
            · have hmn' : ((m : Int) == (sk.length : Int)) = false := by rw [beq_eq_false_iff_ne]; omega
              have hmlt : m < sk.length := by omega
              clear hmn
              go_wp2_with fail
              refine (hof.out X hX0.out m sk.length hm (Nat.le_refl _)).mono ?_
              rintro e w6 ⟨b6, er, qs, v6, hs6, rfl, hN6⟩
              obtain ⟨a7, c7, rfl, _⟩ := hN6.at
              have I6 := hid (hI.out.below (Nat.le_refl _) b6)
              have M6 := hid (NewQ.x (eb := w.heap.size) hN6)
              have hs6w : w.heap.size ≤ w6.heap.size := I6.out.kp.size
              clear hN6 hI hof
              by_cases he : er = 0
              · subst he
                have hql := hs6.len.2
                have hT1 := hid (hnx.out qs hs6)
                clear hs6 hnx hst
                rw [List.length_append]
                go_wp2_with (first
                  | (at_builtin; go_loud (refine wp_apps_p _ rfl _ _ rfl w.heap.size w.heap.size (Nat.le_refl _) (.slice ea (pt.length + l.length) ec) (pt ++ l) rfl (by rw [← List.length_append]; exact I6.out.ne) _ qs rfl X.heap.size M6.out (by rw [List.length_append]; omega) hs6w ?_); intro v8 w8 hN8 hg8 hB8; have I8 := hid (I6.out.pair (by rw [List.length_append]; exact hg8) hB8 hN8); obtain ⟨a8, c8, e8⟩ := hN8.slice; rw [List.length_append, List.length_append] at e8; subst e8; clear hN8 hg8 hB8)
                  | (go_at_call 88; fail))
                obtain ⟨a9, c9, e9, hR9, _⟩ := I8.out.ns.at
                rw [hlr.out] at e9
                cases e9
                have hof2 := hid (refof_idx (sk ++ [(L, R)]) sk.length m (by rw [hlr.out]; omega) (by rw [hlr.out]; omega) (some ⟨g5', 0, none⟩) c5' w8 hre.out hR9)
                rw [hlr.out] at hof2
                have hnx2 := hid (fun qs' (hs : Tm.OfSays (sk ++ [(L, R)]) (sk.length : Int) (m : Int) 0 qs') => hT1.out.next (ps := qs') (by rw [Tm.ways_at1 hmlt]; exact hs))
                clear hR9 I6 M6
                refine hof2.out.mono ?_
                rintro e w9 ⟨b9, er, qs2, v9, hs9, rfl, hN9⟩
                obtain ⟨a10, c10, rfl, _⟩ := hN9.at
                have I9 := hid (I8.out.below (Nat.le_refl _) b9)
                have M9 := hid (NewQ.x (eb := w.heap.size) hN9)
                have hs9w : w.heap.size ≤ w9.heap.size := I9.out.kp.size
                clear hN9 hof2 I8
                by_cases he : er = 0
                · subst he
                  have hql2 := hs9.len.2
                  have hT2 := hid (hnx2.out qs2 hs9)
                  clear hs9 hnx2 hst2 hT1
                  go_wp2_with (at_builtin; go_loud (refine wp_apps_p _ rfl _ _ rfl w.heap.size w.heap.size (Nat.le_refl _) (.slice a8 (pt.length + l.length + qs.length) c8) (pt ++ l ++ qs) rfl I9.out.ne _ qs2 rfl w8.heap.size M9.out (by rw [List.length_append, List.length_append]; omega) hs9w ?_); intro v11 w11' hN11 hg11 hB11; have I11 := hid (I9.out.pair hg11 hB11 hN11); obtain ⟨a11, c11, e11⟩ := hN11.slice; rw [List.length_append, List.length_append, List.length_append] at e11; subst e11; clear hN11 hg11 hB11)
                  go_roundw
                  case rel => exact ⟨m + 1, l ++ qs ++ qs2, by omega, by go_num, ⟨a11, c11, by simp [Nat.add_assoc]⟩, hT2, by have h := I11.out; simpa [Hid, List.append_assoc, Nat.add_assoc] using h⟩
                  case measure => simp [intOf]; omega
                · have hne : (er != 0) = true := by simpa using he
                  have Hs := hid (hS.out er [] [] (.inr ⟨by omega, er, [], hst2.out er qs2 _ hmlt he hT1.out hs9, .inl ⟨he, rfl, rfl, rfl⟩⟩))
                  clear he hS hs9 hnx2 hst2
                  go_wp2
                  go_ret3
                  exact ⟨er, [], [], _, _, Hs.out, rfl, NewX.nil _ _ _ _, NewX.nil _ _ _ _, I9.out.kp⟩
              · have hne : (er != 0) = true := by simpa using he
                have Hs := hid (hS.out er [] [] (.inr ⟨by omega, er, [], hst.out er qs he hs6, .inl ⟨he, rfl, rfl, rfl⟩⟩))
                clear he hS hs6 hnx hst hst2
                go_wp2
                go_ret3
                exact ⟨er, [], [], _, _, Hs.out, rfl, NewX.nil _ _ _ _, NewX.nil _ _ _ _, I6.out.kp⟩
theorem step_olds_r {ops:Array Oper} {o:Oper} {a:Act} {K:Act→World→Prop} {Q:Exit→Act→World→Prop} {E:Prop} (w:World) (hgd:o.guard = none) (s x:Operand)
 (ho:o.op = .call { callee:=.builtin .append,args:=#[s,x],argTypes:=#[23,23] }) (sb eb:Nat) (hse:eb≤sb) (v:Value) (ps:PairL) (hs:a.eval s = v) (hN:NewX true 54 sb eb w v ps)
 (a2:Option Addr) (c2:Nat) (qs:PairL) (hx:a.eval x = .slice a2 qs.length c2) (hn:a2 = none→c2 = 0) (hM:RulesAt eb w a2 qs) (hew:eb≤w.heap.size) (hlen:ps.length+qs.length≤100000) (hbase:sb≤w.heap.size)
 (h:∀ v' w',NewX true 54 sb eb w' v' (ps++qs)→w.grownBy w' v.ownBlock→Below sb w w'→K (a.put o.dst v') w') :
 if Region.wanted o (yielded ops a.tmps) = true then Oper.wp Tryz.prog o a w K Q else E:=by
 have hwt:Region.wanted o (yielded ops a.tmps) = true:=by simp [Region.wanted,hgd]
 rw [if_pos hwt]
 obtain ⟨i0,hi,hz0,hz1,hz2⟩:=info_parts Tryz.info54
 obtain ⟨us,h1,h2⟩:=hN
 have hul:us.length = ps.length * 2:=h1.1
 cases a2 with
 | none =>
  have hc:=hn rfl
  obtain rfl:qs = []:=by
   cases qs with
   | nil=>rfl
   | cons q l=>obtain ⟨b,off,e,_⟩:=hM 0 (by simp);cases e
  subst hc
  have hrun:=run_append_owned_none (P:=Tryz.prog) (w:=w) sb 23 o.type 54 i0 2 Tryz.underlying23 hi v ps.length us h1
  have hx':a.eval x = .slice none 0 0:=hx
  unfold Oper.wp
  simp [execOp,ho,resolve,invoke,builtin,hs,hx',hrun,Result.andThen]
  exact h v w (by rw [List.append_nil];exact ⟨us,h1,h2⟩) ⟨rfl,rfl,rfl,Nat.le_refl _,fun _ _ _=>rfl⟩ (Below.refl _ _)
 | some ad =>
  obtain ⟨us',hu1,hu2,hu3,hu4⟩:=olds_cells hM
  refine wp_append_own w s x 23 ho sb 54 i0 (.agg #[.slice none 0 0,.slice none 0 0]) 2 48 Tryz.underlying23 hi hz0 hz1 hz2 rfl (by decide) v ps.length us hs h1 ad qs.length c2 us' hx hu1 hu2
   (by intro u hu;obtain ⟨_,_,_,rfl⟩:=hu3 u hu;rfl) (by unfold maxLen;omega) (by omega) hbase ?_
  intro v' w' hown hg _
  have hr:∀ k,v.ownBlock = some k→eb≤k∧∃ cs,w.heap[k]? = some (.cells cs 54 (0,0)):=fun k hk=>⟨Nat.le_trans hse (World.ownsRow.lt h1 k hk).1,own_type h1 hk⟩
  have hk:∀ {a:Option Addr} {zs:List Int},IntR true eb w a zs→IntR true eb w' a zs:=fun h=>h.grown (by decide) hg hr
  refine h v' w' ⟨us++us',by simpa using hown,fun j hj=>?_⟩ hg ((Below.refl sb w).grown hg hbase (fun k e=>(World.ownsRow.lt h1 k e).1))
  by_cases hjl:j < ps.length
  ·obtain ⟨y,yc,y',yc',q1,q2,n1,n2,r⟩:=h2 j hjl
   rw [List.getElem?_append_left hjl,List.getElem?_append_left (by omega),List.getElem?_append_left (by omega)]
   exact ⟨y,yc,y',yc',q1,q2,hk n1,hk n2,r⟩
  ·have hj2:j - ps.length < qs.length:=by rw [List.length_append] at hj;omega
   obtain ⟨y,yc,y',yc',q1,q2,n1,n2,r⟩:=hu4 (j - ps.length) hj2
   rw [List.getElem?_append_right (by omega),List.getElem?_append_right (by omega),List.getElem?_append_right (by omega),hul]
   rw [show j * 2 - ps.length * 2 = (j - ps.length) * 2 by omega,show j * 2+1 - ps.length * 2 = (j - ps.length) * 2+1 by omega]
   exact ⟨y,yc,y',yc',q1,q2,hk (IntR.old n1 hew (Below.refl _ _)),hk (IntR.old n2 hew (Below.refl _ _)),r⟩
theorem step_olds_p {ops:Array Oper} {o:Oper} {a:Act} {K:Act→World→Prop} {Q:Exit→Act→World→Prop} {E:Prop} (w:World) (hgd:o.guard = none) (s x:Operand)
 (ho:o.op = .call { callee:=.builtin .append,args:=#[s,x],argTypes:=#[24,24] }) (sb eb:Nat) (hse:eb≤sb) (v:Value) (ps:PairL) (hs:a.eval s = v) (hN:NewX true 40 sb eb w v ps)
 (a2:Option Addr) (c2:Nat) (qs:PairL) (hx:a.eval x = .slice a2 qs.length c2) (hn:a2 = none→c2 = 0) (hM:RulesAt eb w a2 qs) (hew:eb≤w.heap.size) (hlen:ps.length+qs.length≤100000) (hbase:sb≤w.heap.size)
 (h:∀ v' w',NewX true 40 sb eb w' v' (ps++qs)→w.grownBy w' v.ownBlock→Below sb w w'→K (a.put o.dst v') w') :
 if Region.wanted o (yielded ops a.tmps) = true then Oper.wp Tryz.prog o a w K Q else E:=by
 have hwt:Region.wanted o (yielded ops a.tmps) = true:=by simp [Region.wanted,hgd]
 rw [if_pos hwt]
 obtain ⟨i0,hi,hz0,hz1,hz2⟩:=info_parts Tryz.info40
 obtain ⟨us,h1,h2⟩:=hN
 have hul:us.length = ps.length * 2:=h1.1
 cases a2 with
 | none =>
  have hc:=hn rfl
  obtain rfl:qs = []:=by
   cases qs with
   | nil=>rfl
   | cons q l=>obtain ⟨b,off,e,_⟩:=hM 0 (by simp);cases e
  subst hc
  have hrun:=run_append_owned_none (P:=Tryz.prog) (w:=w) sb 24 o.type 40 i0 2 Tryz.underlying24 hi v ps.length us h1
  have hx':a.eval x = .slice none 0 0:=hx
  unfold Oper.wp
  simp [execOp,ho,resolve,invoke,builtin,hs,hx',hrun,Result.andThen]
  exact h v w (by rw [List.append_nil];exact ⟨us,h1,h2⟩) ⟨rfl,rfl,rfl,Nat.le_refl _,fun _ _ _=>rfl⟩ (Below.refl _ _)
 | some ad =>
  obtain ⟨us',hu1,hu2,hu3,hu4⟩:=olds_cells hM
  refine wp_append_own w s x 24 ho sb 40 i0 (.agg #[.slice none 0 0,.slice none 0 0]) 2 48 Tryz.underlying24 hi hz0 hz1 hz2 rfl (by decide) v ps.length us hs h1 ad qs.length c2 us' hx hu1 hu2
   (by intro u hu;obtain ⟨_,_,_,rfl⟩:=hu3 u hu;rfl) (by unfold maxLen;omega) (by omega) hbase ?_
  intro v' w' hown hg _
  have hr:∀ k,v.ownBlock = some k→eb≤k∧∃ cs,w.heap[k]? = some (.cells cs 40 (0,0)):=fun k hk=>⟨Nat.le_trans hse (World.ownsRow.lt h1 k hk).1,own_type h1 hk⟩
  have hk:∀ {a:Option Addr} {zs:List Int},IntR true eb w a zs→IntR true eb w' a zs:=fun h=>h.grown (by decide) hg hr
  refine h v' w' ⟨us++us',by simpa using hown,fun j hj=>?_⟩ hg ((Below.refl sb w).grown hg hbase (fun k e=>(World.ownsRow.lt h1 k e).1))
  by_cases hjl:j < ps.length
  ·obtain ⟨y,yc,y',yc',q1,q2,n1,n2,r⟩:=h2 j hjl
   rw [List.getElem?_append_left hjl,List.getElem?_append_left (by omega),List.getElem?_append_left (by omega)]
   exact ⟨y,yc,y',yc',q1,q2,hk n1,hk n2,r⟩
  ·have hj2:j - ps.length < qs.length:=by rw [List.length_append] at hj;omega
   obtain ⟨y,yc,y',yc',q1,q2,n1,n2,r⟩:=hu4 (j - ps.length) hj2
   rw [List.getElem?_append_right (by omega),List.getElem?_append_right (by omega),List.getElem?_append_right (by omega),hul]
   rw [show j * 2 - ps.length * 2 = (j - ps.length) * 2 by omega,show j * 2+1 - ps.length * 2 = (j - ps.length) * 2+1 by omega]
   exact ⟨y,yc,y',yc',q1,q2,hk (IntR.old n1 hew (Below.refl _ _)),hk (IntR.old n2 hew (Below.refl _ _)),r⟩
def SameW (V X:World):Prop:=V.heap = X.heap∧V.os = X.os∧V.tape = X.tape∧V.output = X.output
theorem SameW.below {b:Nat} {w X V:World} (h:SameW V X) (hB:Below b w X):Below b w V:=⟨h.2.1.trans hB.os,h.2.2.1.trans hB.tape,h.2.2.2.trans hB.output,by rw [h.1];exact hB.size,fun k hk=>by rw [h.1];exact hB.block k hk⟩
def Rdy (e:TypeId) (b:Nat) (w V:World) (B:Nat):Prop:=(V.heap[B]? = some (.cells #[] e (0,0))∧b≤B)∧Below b w V
theorem Rdy.lit {e:TypeId} {b B:Nat} {w V:World} (h:Rdy e b w V B):NewX true e b b V (.slice (some ⟨B,0,none⟩) 0 0) [] :=
 ⟨[],⟨rfl,.inr ⟨B,0,#[],rfl,h.1.2,h.1.1,Nat.le_refl _,by unfold maxLen;omega,rfl,rfl⟩⟩,fun j hj=>by simp at hj⟩
theorem Rdy.new (e:TypeId) {b:Nat} {w X:World} (h:Below b w X) (hb:b≤X.heap.size):Rdy e b w (X.alloc (.cells #[] e)) X.heap.size:=⟨⟨World.alloc_heap_new X _,hb⟩,h.alloc hb _⟩
theorem Rdy.alloc {e:TypeId} {b B:Nat} {w V:World} (h:Rdy e b w V B) (hb:b≤V.heap.size) (o:Obj):Rdy e b w (V.alloc o) B:=⟨⟨(Below.heap_alloc V o B (Array.getElem?_eq_some_iff.1 h.1.1).1).trans h.1.1,h.1.2⟩,h.2.alloc hb o⟩
theorem Rdy.same {e:TypeId} {b B:Nat} {w V X:World} (h:Rdy e b w X B) (hV:SameW V X):Rdy e b w V B:=⟨⟨by rw [hV.1];exact h.1.1,h.1.2⟩,hV.below h.2⟩
theorem step_rdy_r {ops:Array Oper} {o:Oper} {a:Act} {K:Act→World→Prop} {Q:Exit→Act→World→Prop} {E:Prop} (V:World) (hgd:o.guard = none) (s x:Operand)
 (ho:o.op = .call { callee:=.builtin .append,args:=#[s,x],argTypes:=#[23,23] }) (b B:Nat) (w:World) (hs:a.eval s = .slice (some ⟨B,0,none⟩) 0 0) (q:Rdy 54 b w V B)
 (a2:Option Addr) (c2:Nat) (qs:PairL) (hx:a.eval x = .slice a2 qs.length c2) (hn:a2 = none→c2 = 0) (hM:∀ V,Below b w V→RulesAt b V a2 qs) (hbw:b≤w.heap.size) (hlen:qs.length≤1000)
 (h:∀ v' w',NewX true 54 b b w' v' qs→(∀ v2 l2,NewX true 40 b b V v2 l2→NewX true 40 b b w' v2 l2)→(∀ C,Rdy 40 b w V C→Rdy 40 b w w' C)→Below b w w'→K (a.put o.dst v') w') :
 if Region.wanted o (yielded ops a.tmps) = true then Oper.wp Tryz.prog o a V K Q else E:=by
 have hbV:b≤V.heap.size:=Nat.le_trans hbw q.2.size
 refine step_olds_r V hgd s x ho b b (Nat.le_refl _) (.slice (some ⟨B,0,none⟩) 0 0) [] hs q.lit a2 c2 qs hx hn (hM V q.2) hbV (by simp;omega) hbV ?_
 intro v' w' hN hg hB
 have hr:∀ k,(Value.slice (some ⟨B,0,none⟩) 0 0).ownBlock = some k→b≤k∧∃ cs,V.heap[k]? = some (.cells cs 54 (0,0)):=fun k hk=>by
  cases hk
  exact ⟨q.1.2,_,q.1.1⟩
 refine h v' w' (by rwa [List.nil_append] at hN) (fun v2 l2 h2=>h2.grown (e':=54) (by decide) hg fun k hk=>⟨(hr k hk).1,(hr k hk).2,fun e1=>?_⟩) (fun C hC=>⟨⟨(hg.block C (Array.getElem?_eq_some_iff.1 hC.1.1).1 fun e1=>?_).trans hC.1.1,hC.1.2⟩,q.2.trans hB⟩) (q.2.trans hB)
 ·obtain ⟨_,_,cs,hc⟩:=h2.block e1
  obtain ⟨cs',hc'⟩:=(hr k hk).2
  rw [hc] at hc'
  simp only [Option.some.injEq,Obj.cells.injEq] at hc'
  exact absurd hc'.2.1 (by decide)
 ·cases e1
  have h1:=hC.1.1
  rw [q.1.1] at h1
  simp only [Option.some.injEq,Obj.cells.injEq] at h1
  exact absurd h1.2.1 (by decide)
theorem step_rdy_p {ops:Array Oper} {o:Oper} {a:Act} {K:Act→World→Prop} {Q:Exit→Act→World→Prop} {E:Prop} (V:World) (hgd:o.guard = none) (s x:Operand)
 (ho:o.op = .call { callee:=.builtin .append,args:=#[s,x],argTypes:=#[24,24] }) (b B:Nat) (w:World) (hs:a.eval s = .slice (some ⟨B,0,none⟩) 0 0) (q:Rdy 40 b w V B)
 (a2:Option Addr) (c2:Nat) (qs:PairL) (hx:a.eval x = .slice a2 qs.length c2) (hn:a2 = none→c2 = 0) (hM:∀ V,Below b w V→RulesAt b V a2 qs) (hbw:b≤w.heap.size) (hlen:qs.length≤1000)
 (h:∀ v' w',NewX true 40 b b w' v' qs→(∀ v2 l2,NewX true 54 b b V v2 l2→NewX true 54 b b w' v2 l2)→(∀ C,Rdy 54 b w V C→Rdy 54 b w w' C)→Below b w w'→K (a.put o.dst v') w') :
 if Region.wanted o (yielded ops a.tmps) = true then Oper.wp Tryz.prog o a V K Q else E:=by
 have hbV:b≤V.heap.size:=Nat.le_trans hbw q.2.size
 refine step_olds_p V hgd s x ho b b (Nat.le_refl _) (.slice (some ⟨B,0,none⟩) 0 0) [] hs q.lit a2 c2 qs hx hn (hM V q.2) hbV (by simp;omega) hbV ?_
 intro v' w' hN hg hB
 have hr:∀ k,(Value.slice (some ⟨B,0,none⟩) 0 0).ownBlock = some k→b≤k∧∃ cs,V.heap[k]? = some (.cells cs 40 (0,0)):=fun k hk=>by
  cases hk
  exact ⟨q.1.2,_,q.1.1⟩
 refine h v' w' (by rwa [List.nil_append] at hN) (fun v2 l2 h2=>h2.grown (e':=40) (by decide) hg fun k hk=>⟨(hr k hk).1,(hr k hk).2,fun e1=>?_⟩) (fun C hC=>⟨⟨(hg.block C (Array.getElem?_eq_some_iff.1 hC.1.1).1 fun e1=>?_).trans hC.1.1,hC.1.2⟩,q.2.trans hB⟩) (q.2.trans hB)
 ·obtain ⟨_,_,cs,hc⟩:=h2.block e1
  obtain ⟨cs',hc'⟩:=(hr k hk).2
  rw [hc] at hc'
  simp only [Option.some.injEq,Obj.cells.injEq] at hc'
  exact absurd hc'.2.1 (by decide)
 ·cases e1
  have h1:=hC.1.1
  rw [q.1.1] at h1
  simp only [Option.some.injEq,Obj.cells.injEq] at h1
  exact absurd h1.2.1 (by decide)
theorem Rdy.newI {b B:Nat} {w V:World} (h:Rdy 3 b w V B):New b V (.slice (some ⟨B,0,none⟩) 0 0) [] :=
 ⟨rfl,.inr ⟨B,0,#[],rfl,h.1.2,h.1.1,Nat.le_refl _,by unfold maxLen;omega,rfl,rfl⟩⟩
theorem step_rdy_i {ops:Array Oper} {o:Oper} {a:Act} {K:Act→World→Prop} {Q:Exit→Act→World→Prop} {E:Prop} (V:World) (hgd:o.guard = none) (s x:Operand)
 (ho:o.op = .call { callee:=.builtin .append,args:=#[s,x],argTypes:=#[35,35] }) (b B:Nat) (w:World) (hs:a.eval s = .slice (some ⟨B,0,none⟩) 0 0) (q:Rdy 3 b w V B)
 (ad:Addr) (ys:List Int) (c:Nat) (hx:a.eval x = .slice (some ad) ys.length c) (hp:0 < ys.length) (hI:∀ V,Below b w V→Ints b V (some ad) ys) (hbw:b≤w.heap.size) (hlen:ys.length≤1000)
 (h:∀ g c' w',New b w' (.slice (some ⟨g,0,none⟩) ys.length c') ys→(∀ C,C≠B→Rdy 3 b w V C→Rdy 3 b w w' C∧g≠C)→(∀ g2 n2 c2 l2,g2≠B→New b V (.slice (some ⟨g2,0,none⟩) n2 c2) l2→New b w' (.slice (some ⟨g2,0,none⟩) n2 c2) l2)→Below b w w'→(∀ q,q < V.heap.size→q≠B→w'.heap[q]? = V.heap[q]?)→K (a.put o.dst (.slice (some ⟨g,0,none⟩) ys.length c')) w') :
 if Region.wanted o (yielded ops a.tmps) = true then Oper.wp Tryz.prog o a V K Q else E:=by
 have hbV:b≤V.heap.size:=Nat.le_trans hbw q.2.size
 obtain ⟨i0,hi,hz0,hz1,hz2⟩:=info_parts Tryz.info3
 refine step_append_lies V hgd s x 35 ho b 3 i0 (.int .i64 0) 1 8 Tryz.underlying35 hi hz0 hz1 hz2 rfl (by decide) (.slice (some ⟨B,0,none⟩) 0 0) 0 [] hs q.newI ad ys.length c (ys.map (Value.int .i64)) hx (by simp) ((hI V q.2).mono hbV).news
  (by intro u hu;simp at hu;obtain ⟨z,_,rfl⟩:=hu;rfl) hp (by unfold maxLen;omega) (by omega) hbV V.heap.size rfl ?_
 intro g c' w' hown hg hor _
 rw [Nat.zero_add] at hown ⊢
 have hB:Below b V w':=(Below.refl b V).grown hg hbV (fun k e=>by cases e;exact q.1.2)
 have hgC:∀ C,C≠B→C < V.heap.size→g≠C:=fun C hC hlt e=>by
  rcases hor with h1 | h1
  ·cases h1;exact hC e.symm
  ·omega
 refine h g c' w' ?_ (fun C hC hR=>⟨⟨⟨(hg.block C (Array.getElem?_eq_some_iff.1 hR.1.1).1 fun e1=>?_).trans hR.1.1,hR.1.2⟩,q.2.trans hB⟩,hgC C hC (Array.getElem?_eq_some_iff.1 hR.1.1).1⟩) (fun g2 n2 c2 l2 h2 hN=>⟨hN.1,?_⟩) (q.2.trans hB) (fun r hr hne=>hg.block r hr fun e1=>by cases e1;exact hne rfl)
 ·show w'.ownsRow b 3 1 _ ys.length (ys.map (Value.int .i64))
  simpa using hown
 ·cases e1;exact hC rfl
 ·rcases hN.2 with ⟨h3,_⟩ | ⟨g3,cap,cur,e3,k1,k2,k3⟩
  ·cases h3
  ·cases e3
   exact .inr ⟨_,_,cur,rfl,k1,(hg.block _ (Array.getElem?_eq_some_iff.1 k2).1 fun e1=>by cases e1;exact h2 rfl).trans k2,k3⟩
end Go.Proofs.YtglohanbpjaieaaGreat
