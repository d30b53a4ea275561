/-
  Parts of the proof: Plain2, Plain3, Plain4, Plain5, Row2, IntMap, True1, Fit1, Fit2, Fit3, Tree1.
-/
import Derived.Maps.OwnOps
import Derived.Test.YtglohanbpjaieaaGreatBrt2
import Derived.Maps.OwnSet
import Derived.Maps.OwnIn
import Derived.Maps.AppendAt
namespace Go.Proofs.YtglohanbpjaieaaGreat
open Go.Proofs Go.RowKit Go.Shelf Go.Maps
theorem lawInt:Keyed Tryz.prog 3:=int_keyed Tryz.underlying3
theorem zeroInt (w:World):(zeroValue 3).run Tryz.prog w = .ok (.int .i64 0) w:=by kernel_rfl
theorem wf64 {s:Int} (h1:-1000≤s) (h2:s≤1000):(Lit.int .i64 s).wf = true:=by
 simp [Lit.wf,IntKind.min,IntKind.max,IntKind.signed,IntKind.bits]
 omega
set_option maxRecDepth 100000 in
set_option maxHeartbeats 400000 in
theorem rename_any (seen:List Int) (s:Int) (Bf Bm:Nat) (w:World) (h8:-8≤s) (h6:s < 6) (hl:seen.length≤500) (hF:FreshAt w Bf Bm seen) :
 Calls Tryz.prog 118 #[.int .i64 s,.pointer (some ⟨Bf,0,none⟩)] w fun e w'=>∃ b,e = .returned (.slice (some b) 1 1)∧Ints w'.heap.size w' (some b) [Tm.name seen s]∧FreshAt w' Bf Bm (Tm.see seen s)∧w.grownBy w' (some Bm):=by
 by_cases hs:s < 0
 ·have hkey:=keyOf_int_mk Tryz.underlying3 (wf64 (s:=s) (by omega) (by omega))
  obtain ⟨hc,D,hown,hM⟩:=hF
  have hh:=hM.has s
  cases hct:seen.contains s with
  | true =>
   rw [hct] at hh
   have hat':=hM.at_ s hct
   have hnm:Tm.name seen s = -1 - (Tm.idx seen s:Int):=by unfold Tm.name;rw [if_pos hs]
   have hse:Tm.see seen s = seen:=by unfold Tm.see;rw [if_pos hs,if_pos hct]
   rw [hse]
   have Hnm:=hid hnm
   have Hat:=hid hat'
   have HF:Hid (FreshAt w Bf Bm seen):=⟨hc,D,hown,hM⟩
   have Hh:=hid hh
   clear hnm hat' hse hh hct hM
   go_enter Tryz.func118,Tryz.ntmps118
   go_wp2_with (first
    | (at_lookup;go_loud (refine wpList_lookup_own_ok_int _ rfl _ _ 154 rfl 3 3 .i64 lawInt Tryz.underlying154 Tryz.underlying3 (zeroInt _) Bm seen.length D rfl hown _ _ rfl hkey ?_);intro c hat hwc;rw [Hh.out];obtain rfl:-1 - (Tm.idx seen s:Int) = c:=(by have:=Hat.out.symm.trans hat;simpa using this)))
   go_ret
   have h:=ints_lit w [Tm.name seen s] _ rfl
   simp only [List.map_cons,List.map_nil] at h
   rw [Hnm.out] at h ⊢
   exact ⟨_,rfl,by simpa using h,HF.out.keep (Below.heap_alloc _ _ _ HF.out.lt.1) (Below.heap_alloc _ _ _ HF.out.lt.2),World.grownBy_alloc _ _ _⟩
  | false =>
   rw [hct] at hh
   have hnm:Tm.name seen s = -1 - (seen.length:Int):=by unfold Tm.name;rw [if_pos hs,Tm.idx_new hct]
   have hse:Tm.see seen s = seen++[s]:=by unfold Tm.see;rw [if_pos hs,if_neg (by rw [hct];decide)]
   rw [hse]
   have Hnm:=hid hnm
   have Hh:=hid hh
   have Hsz:=hid hM.size
   have HM:=hid (hM.put (hown.tidy lawInt) hct)
   have hl':(seen.length:Int)≤500:=by omega
   have hBm:=hown.lt
   have hBf:Bf < w.heap.size:=lt_of_cell hc
   have hne:Bf≠Bm:=by
    obtain ⟨es,clock,hb,_⟩:=hown
    exact ne_map hc hb
   have Hne:=hid hne
   clear hnm hse hh hct hM hne
   go_enter Tryz.func118,Tryz.ntmps118
   go_wp2_with (first
    | (at_lookup;go_loud (refine wpList_lookup_own_ok_int _ rfl _ _ 154 rfl 3 3 .i64 lawInt Tryz.underlying154 Tryz.underlying3 (zeroInt _) Bm seen.length D rfl hown _ _ rfl hkey ?_);intro c hat hwc;rw [Hh.out])
    | (at_len;go_loud (refine wpList_len_own _ rfl _ 154 rfl 3 3 Tryz.underlying154 _ Bm seen.length D rfl hown ?_);rw [Hsz.out])
    | (at_mapUpdate;go_loud (refine wpList_mapUpdate_own _ rfl _ _ _ 154 rfl 3 3 lawInt Tryz.underlying154 _ Bm seen.length D rfl hown (by unfold maxLen;omega) _ (.int .i64 (-1 - (seen.length:Int))) _ rfl rfl hkey (.lit (.int .i64 (-1 - (seen.length:Int)))) [] (plainElem_int Tryz.underlying3 (wf64 (by omega) (by omega))) ?_);intro w1 hown1 hgrow1))
   go_ret
   have h:=ints_lit w1 [Tm.name seen s] _ rfl
   simp only [List.map_cons,List.map_nil] at h
   rw [Hnm.out] at h ⊢
   have hs1:=hgrow1.size
   refine ⟨_,rfl,by simpa using h,⟨?_,_,?_,HM.out⟩,?_⟩
   ·rw [World.cell?_of_block (a:=⟨Bf,0,none⟩) (Below.heap_alloc w1 _ Bf (by omega)),World.cell?_of_block (a:=⟨Bf,0,none⟩) (hgrow1.block Bf hBf (by simpa using Hne.out))]
    exact hc
   ·rw [List.length_append]
    exact World.ownsMap.alloc hown1 _
   ·exact ⟨hgrow1.os,hgrow1.tape,hgrow1.output,by simp;omega,fun k hk hm=>(Below.heap_alloc w1 _ k (by omega)).trans (hgrow1.block k hk hm)⟩
 ·have hnm:Tm.name seen s = s:=by unfold Tm.name;rw [if_neg hs]
  have hse:Tm.see seen s = seen:=by unfold Tm.see;rw [if_neg hs]
  rw [hse,hnm]
  have HF:=hid hF
  clear hnm hse hF
  go_enter Tryz.func118,Tryz.ntmps118
  go_wp2
  go_ret
  have h:=ints_lit w [s] _ rfl
  simp only [List.map_cons,List.map_nil] at h
  exact ⟨_,rfl,by simpa using h,HF.out.keep (Below.heap_alloc _ _ _ HF.out.lt.1) (Below.heap_alloc _ _ _ HF.out.lt.2),World.grownBy_alloc _ _ _⟩
set_option maxRecDepth 100000 in
set_option maxHeartbeats 400000 in
theorem change_rename (seen:List Int) (t:List Int) (at':Option Addr) (ct Bf Bm:Nat) (w:World) (ht:t.length≤100) (hl:seen.length≤200) (h8:∀ k,k < t.length→-8≤t[k]?.getD 0) (h6:∀ k,k < t.length→t[k]?.getD 0 < 6)
 (hF:FreshAt w Bf Bm seen) (hT:Ints w.heap.size w at' t) :
 Calls Tryz.prog 109 #[.slice at' t.length ct,.func (.func 118) #[] #[.pointer (some ⟨Bf,0,none⟩)]] w fun e w' =>
  ∃ v,e = .returned v∧New w.heap.size w' v (Tm.plainTo seen t t.length)∧FreshAt w' Bf Bm (Tm.seenFrom seen t)∧Keep w.heap.size Bm w w':=by
 have hlen:(t.length:Int)≤100:=by omega
 obtain ⟨hlf,hlm⟩:=hF.lt
 obtain ⟨es,clock,hmap⟩:=hF.map
 have HF:=hid hF
 have HT:=hid hT
 have H8:=hid h8
 have H6:=hid h6
 have Hmap:=hid hmap
 clear hF hT h8 h6 hmap
 go_enter Tryz.func109,Tryz.ntmps109
 go_wp2
 go_loopw [5,10] (fun v i wr=>∃ k:Nat,k≤t.length∧i = .int .i64 (k:Int)∧New w.heap.size wr v (Tm.plainTo seen t k)∧FreshAt wr Bf Bm (Tm.seenFrom seen (t.take k))∧Keep w.heap.size Bm w wr) (fun _ i _=>t.length - (intOf i).toNat)
 case atStart=>exact ⟨0,Nat.zero_le _,rfl,New.nil _ _,HF.out,Keep.refl _ _ _⟩
 case round =>
  obtain ⟨k,hk,rfl,hN,hFr,hK⟩:=hrel
  by_cases hlt:k < t.length
  ·have hlt':(k:Int) < (t.length:Int):=by omega
   obtain ⟨b,off,rfl,hb,hc⟩:=HT.out.at (by omega)
   have hck:wr.cell? ⟨b,off+k,none⟩ = some (.int .i64 (t[k]?.getD 0)):=(World.cell?_of_block (a:=⟨b,off+k,none⟩) (hK.block b hb (ne_map (hc k hlt) Hmap.out))).trans (hc k hlt)
   have hsl:=Tm.seen_len (t.take k) seen
   rw [List.length_take] at hsl
   have hf:=rename_any (Tm.seenFrom seen (t.take k)) (t[k]?.getD 0) Bf Bm wr (H8.out k hlt) (H6.out k hlt) (by omega) hFr
   have hsn:=hid (Tm.plainTo_succ seen t k)
   have hsee:=hid (Tm.seen_succ seen hlt)
   have Hpl:=hid (Tm.plainTo_length seen t k)
   clear hc hsl hFr
   generalize Tm.name (Tm.seenFrom seen (t.take k)) (t[k]?.getD 0) = nm at *
   generalize Tm.see (Tm.seenFrom seen (t.take k)) (t[k]?.getD 0) = seen' at *
   generalize t[k]?.getD 0 = s at *
   generalize Tm.plainTo seen t k = xs at *
   obtain ⟨a0,c0,rfl,_⟩:=New.ints hN
   go_wp2_with (first
    | (go_at_call 118;refine hf.mono ?_;clear hf;rintro e w1 ⟨b1,rfl,hI1,hF1,hg1⟩;have hN1:New w.heap.size w1 (.slice a0 xs.length c0) xs:=World.ownsRow.kept hN hg1 (by cases h:(Value.slice a0 xs.length c0).ownBlock with | none=>exact .inl rfl | some q=>exact .inr (by have:=(World.ownsRow.lt hN q h).1;simp;omega));have hK1:=hK.trans (Keep.of_grown hg1 hK.size))
    | (at_builtin;go_loud (refine wp_append_ints _ rfl _ _ rfl w.heap.size _ xs rfl hN1 (some b1) [nm] 1 rfl (fun e=>by cases e) hI1 (by simp [Hpl.out];omega) hK1.size ?_);intro v' w2 hN2 hB3;obtain ⟨a2,c2,rfl,_⟩:=New.ints hN2))
   go_roundw
   case rel=>exact ⟨k+1,by omega,by go_num,by rw [hsn.out];simpa using hN2,by rw [hsee.out];exact hF1.keep (hB3.block Bf hlf) (hB3.block Bm hlm),hK1.trans (Keep.of_below hB3)⟩
   case measure=>simp [intOf];omega
  ·obtain rfl:k = t.length:=by omega
   rw [List.take_length] at hFr
   obtain ⟨a2,c2,rfl,_⟩:=New.ints hN
   go_wp2
   go_ret
   exact ⟨_,rfl,hN,hFr,hK⟩
def Tm.plain (t:List Int):List Int:=Tm.plainTo [] t t.length
theorem Tm.known6 {t:List Int} (h:Tm.err t = 0):∀ k,k < t.length→t[k]?.getD 0 < 6:=fun _ hk=>Tm.known_lt (Tm.all_at (Tm.err_all h) hk)
theorem Tm.see_nodup {seen:List Int} (h:seen.Nodup) (s:Int):(Tm.see seen s).Nodup:=by
 unfold Tm.see
 split
 ·split
  ·exact h
  ·rename_i hc
   have:¬ s∈seen:=by simpa using hc
   rw [List.nodup_append]
   exact ⟨h,by simp,fun x hx y hy=>by simp at hy;subst hy;rintro rfl;exact this hx⟩
 ·exact h
theorem Tm.seen_nodup (t:List Int):∀ seen:List Int,seen.Nodup→(Tm.seenFrom seen t).Nodup:=by
 induction t with
 | nil=>intro seen h;exact h
 | cons s l ih=>intro seen h;exact ih _ (Tm.see_nodup h s)
theorem Tm.idx_at {seen:List Int} (hn:seen.Nodup) {i:Nat} (hi:i < seen.length) {s:Int} (h:seen[i]?.getD 0 = s):Tm.idx seen s = i:=by
 unfold Tm.idx
 have h':seen[i] = s:=by simpa [hi] using h
 rw [List.findIdx_eq hi]
 refine ⟨by simp [h'],fun j hj=>?_⟩
 simp only [beq_eq_false_iff_ne]
 intro e
 exact (List.pairwise_iff_getElem.1 hn) j i (by omega) hi hj (e.trans h'.symm)
theorem Tm.has_at {seen:List Int} {i:Nat} (hi:i < seen.length) {s:Int} (h:seen[i]?.getD 0 = s):seen.contains s = true:=by
 have h':seen[i] = s:=by simpa [hi] using h
 simp only [List.contains_iff_mem]
 rw [← h']
 exact List.getElem_mem hi
theorem Tm.has_not {seen:List Int} {s:Int} (h:∀ i,i < seen.length→seen[i]?.getD 0≠s):seen.contains s = false:=by
 rw [Bool.eq_false_iff]
 intro hc
 have hm:s∈seen:=by simpa using hc
 obtain ⟨i,hi,e⟩:=List.getElem_of_mem hm
 exact h i hi (by simp [hi,e])
def Tm.half (t:List Int) (k:Nat):List Int:=Tm.plainTo [] t k++t.drop k
theorem Tm.half_zero (t:List Int):Tm.half t 0 = t:=by simp [Tm.half,Tm.plainTo]
theorem Tm.half_all (t:List Int):Tm.half t t.length = Tm.plain t:=by simp [Tm.half,Tm.plain]
theorem Tm.half_length {t:List Int} {k:Nat} (h:k≤t.length):(Tm.half t k).length = t.length:=by
 simp only [Tm.half,List.length_append,Tm.plainTo_length,List.length_drop];omega
theorem Tm.half_succ {t:List Int} {k:Nat} (h:k < t.length):Tm.half t (k+1) = (Tm.half t k).set k (Tm.name (Tm.seenFrom [] (t.take k)) (t[k]?.getD 0)):=by
 unfold Tm.half
 rw [Tm.plainTo_succ,List.set_append_right _ _ (by rw [Tm.plainTo_length];exact Nat.le_refl _),Tm.plainTo_length,Nat.sub_self,List.drop_eq_getElem_cons h,List.set_cons_zero,List.append_assoc]
 rfl
theorem Tm.half_same {t:List Int} {k:Nat} (h:k < t.length) (hs:0≤t[k]?.getD 0):Tm.half t (k+1) = Tm.half t k:=by
 unfold Tm.half
 have hn:Tm.name (Tm.seenFrom [] (t.take k)) (t[k]?.getD 0) = t[k]?.getD 0:=by unfold Tm.name;rw [if_neg (by omega)]
 rw [Tm.plainTo_succ,hn,List.drop_eq_getElem_cons h]
 simp [h]
theorem Tm.see_same {seen:List Int} {s:Int} (hs:0≤s):Tm.see seen s = seen:=by unfold Tm.see;rw [if_neg (by omega)]
theorem Tm.see_old {seen:List Int} {s:Int} (h:seen.contains s = true):Tm.see seen s = seen:=by unfold Tm.see;rw [if_pos h];split <;> rfl
theorem Tm.see_new {seen:List Int} {s:Int} (hs:s < 0) (h:seen.contains s = false):Tm.see seen s = seen++[s]:=by unfold Tm.see;rw [if_pos hs,if_neg (by rw [h];decide)]
theorem New.set {base:Nat} {W:World} {g c n:Nat} {zs:List Int} (h:New base W (.slice (some ⟨g,0,none⟩) n c) zs) (hn:n = zs.length) (j:Nat) (x:Int) :
 New base (W.setCell ⟨g,j,none⟩ (.int .i64 x)) (.slice (some ⟨g,0,none⟩) n c) (zs.set j x):=by
 subst hn
 have:=(World.ownsRow.stored h j (.int .i64 x)).1
 unfold New
 rw [List.length_set,List.map_set]
 exact this
theorem Tryz.infoInts:Tryz.prog.underlying 22 = some (.slice 3):=by kernel_rfl
theorem wp_append_int1 {ops:Array Oper} {rest:List Oper} {o:Oper} {a:Act} {Q:Exit→Act→World→Prop} (w:World) (hgd:o.guard = none) (s x:Operand)
 (ho:o.op = .call { callee:=.builtin .append,args:=#[s,x],argTypes:=#[22,22] }) (base:Nat) (v:Value) (xs:List Int) (hs:a.eval s = v) (hN:New base w v xs)
 (B:Nat) (y:Int) (hx:a.eval x = .slice (some ⟨B,0,none⟩) 1 1) (hB:w.cell? ⟨B,0,none⟩ = some (.int .i64 y)) (hlen:xs.length≤1000000) (hbase:base≤w.heap.size)
 (h:∀ v' w',New base w' v' (xs++[y])→w.grownBy w' v.ownBlock→Below base w w'→wpList Tryz.prog ops Q rest (a.put o.dst v') w'):wpList Tryz.prog ops Q (o :: rest) a w:=by
 obtain ⟨i0,hi,hz0,hz1,hz2⟩:=info_parts Tryz.info3
 refine wpList_append_own w hgd s x 22 ho base 3 i0 (.int .i64 0) 1 8 Tryz.infoInts hi hz0 hz1 hz2 rfl (by decide) v xs.length (xs.map (Value.int .i64)) hs hN ⟨B,0,none⟩ 1 1 [.int .i64 y] hx (by simp)
  (by intro j z hj
      match j,hj with
      | 0,hj=>simp at hj;subst hj;rw [Go.WideShapes.add_plain];simpa using hB)
  (by intro z hz;simp at hz;subst hz;rfl) (by unfold maxLen;omega) (by omega) hbase ?_
 intro v' w' hown hg _
 exact h v' w' (by simpa [New] using hown) hg ((Below.refl base w).grown hg hbase (fun k e=>(World.ownsRow.lt hN k e).1))
theorem New.drewN {base:Nat} {W:World} {v:Value} {zs:List Int} (h:New base W v zs) (d:Nat):New base (W.drewN d) v zs:=h
theorem New.own_lt {base:Nat} {W:World} {g n c:Nat} {zs:List Int} (h:New base W (.slice (some ⟨g,0,none⟩) n c) zs):base≤g∧g < W.heap.size:=World.ownsRow.lt h g rfl
theorem New.at0 {base:Nat} {W:World} {v:Value} {zs:List Int} (h:New base W v zs) (h0:0 < zs.length):∃ g c,v = .slice (some ⟨g,0,none⟩) zs.length c∧(∀ j,j < zs.length→W.cell? ⟨g,j,none⟩ = some (.int .i64 (zs[j]?.getD 0)))∧∀ j,W.frozen? ⟨g,j,none⟩ = false:=by
 obtain ⟨m,hm⟩:∃ m,zs.length = m+1:=⟨zs.length - 1,by omega⟩
 have h':W.ownsRow base 3 1 v (m+1) (zs.map (Value.int .i64)):=by rw [← hm];exact h
 obtain ⟨g,c,rfl⟩:=ownsRow_succ h'
 rw [← hm] at h'
 refine ⟨g,c,by rw [hm],fun j hj=>?_,fun j=>?_⟩
 ·have:=World.ownsRow.cellAt (by rw [hm] at h';exact h') j (by omega)
  rw [this]
  simp [hj]
 ·exact World.ownsRow.frozenAt (by rw [hm] at h';exact h') j
def PlainSt (w W1:World) (t:List Int) (g n c k:Nat) (vs:Value) (wr:World):Prop :=
 New W1.heap.size wr vs (Tm.seenFrom [] (t.take k))∧New w.heap.size wr (.slice (some ⟨g,0,none⟩) n c) (Tm.half t k)∧Below w.heap.size w wr∧W1.heap.size≤wr.heap.size
theorem PlainSt.same {w W1:World} {t:List Int} {g n c k:Nat} {vs:Value} {wr:World} (h:PlainSt w W1 t g n c k vs wr) (hk:k < t.length) (hs:0≤t[k]?.getD 0):PlainSt w W1 t g n c (k+1) vs wr:=by
 obtain ⟨h1,h2,h3,h4⟩:=h
 refine ⟨?_,?_,h3,h4⟩
 ·rw [Tm.seen_succ [] hk,Tm.see_same hs];exact h1
 ·rw [Tm.half_same hk hs];exact h2
theorem PlainSt.store {w W1:World} {t:List Int} {g n c k:Nat} {vs:Value} {wr:World} (hg:g < W1.heap.size) (hn:n = t.length) (hk:k < t.length)
 (h1:New W1.heap.size wr vs (Tm.seenFrom [] (t.take (k+1)))) (h2:New w.heap.size wr (.slice (some ⟨g,0,none⟩) n c) (Tm.half t k)) (h3:Below w.heap.size w wr) (h4:W1.heap.size≤wr.heap.size)
 (x:Int) (hx:x = Tm.name (Tm.seenFrom [] (t.take k)) (t[k]?.getD 0)):PlainSt w W1 t g n c (k+1) vs (wr.setCell ⟨g,k,none⟩ (.int .i64 x)):=by
 have hgr:=grownBy_setCell1 wr g k (.int .i64 x)
 refine ⟨World.ownsRow.kept h1 hgr (.inr fun e=>?_),?_,h3.setCell (p:=⟨g,k,none⟩) h2.own_lt.1 _,Nat.le_trans h4 hgr.size⟩
 ·have:=(World.ownsRow.lt h1 g e).1
  omega
 ·rw [Tm.half_succ hk,← hx]
  exact h2.set (by rw [Tm.half_length (by omega)];exact hn) k x
end Go.Proofs.YtglohanbpjaieaaGreat
namespace Go.Proofs.YtglohanbpjaieaaGreat
open Go.Proofs Go.RowKit Go.Shelf
def TermIn (w:World) (a:Option Addr) (len cap:Nat):Prop:=∃ zs:List Int,zs.length = len∧Ints w.heap.size w a zs∧len≤cap∧cap≤maxLen∧(a = none→cap = 0)
theorem ints_of_cells {w:World} {a:Option Addr} {L C:Nat} {Z:List Int} (h1:L≤C) (h2:Z.length = C) (h3:∀ x,a = some x→∀ c,c < C→w.cell? (x.add c) = some (.int .i64 (Z.getD c 0))) (h4:a = none→C = 0) :
 Ints w.heap.size w a (Z.take L):=fun j hj=>by
 rw [List.length_take] at hj
 cases a with
 | none=>have:=h4 rfl;omega
 | some x =>
  have hc:=h3 x rfl j (by omega)
  have hsp:=World.cell?_spot (h3 x rfl 0 (by omega))
  obtain ⟨b,off,spot⟩:=x
  have hspot:spot = none:=by simpa [Addr.add] using hsp
  subst hspot
  rw [Go.WideShapes.add_plain] at hc
  refine ⟨b,off,rfl,by simpa using lt_of_cell hc,?_⟩
  rw [hc,List.getD_eq_getElem?_getD]
  simp [show j < L from by omega]
end Go.Proofs.YtglohanbpjaieaaGreat
namespace Go.Proofs.YtglohanbpjaieaaGreat
open Go.Proofs Go.RowKit Go.Shelf Go.Maps
def heldElem (v:Value):Option (DataW Value × List MemPlace):=some (.held v,[])
def IntMap (W:World) (b n:Nat) (m:Int→Option Value):Prop :=
 ∃ D:DataW Value,W.ownsMap Tryz.prog 3 heldElem b n D∧(∀ k:Int,Maps.has D (.int .i64 k) = (m k).isSome)∧∀ (k:Int) (v:Value),m k = some v→∀ z,D.atKey (.int .i64 k) z = .held v
def upd {α:Type} (m:Int→Option α) (s:Int) (v:α):Int→Option α:=fun x=>if x = s then some v else m x
theorem upd_same {α:Type} (m:Int→Option α) (s:Int) (v:α):upd m s v s = some v:=by simp [upd]
theorem upd_other {α:Type} (m:Int→Option α) {s x:Int} (v:α) (h:x≠s):upd m s v x = m x:=by simp [upd,h]
theorem IntMap.made (w:World):IntMap (w.alloc (.map #[] 0)) w.heap.size 0 (fun _=>none) :=
 ⟨_,World.ownsMap_made w _ _ _,fun _=>rfl,fun _ _ h=>by cases h⟩
theorem IntMap.lt {W:World} {b n:Nat} {m:Int→Option Value} (h:IntMap W b n m):b < W.heap.size:=by
 obtain ⟨D,hD,_⟩:=h;exact hD.lt
theorem IntMap.keep {W W':World} {b n:Nat} {m:Int→Option Value} (h:IntMap W b n m) (hb:W'.heap[b]? = W.heap[b]?):IntMap W' b n m:=by
 obtain ⟨D,⟨es,clock,hes,r⟩,r2⟩:=h
 exact ⟨D,⟨es,clock,hb.trans hes,r⟩,r2⟩
theorem IntMap.mono {W:World} {b n n':Nat} {m:Int→Option Value} (h:IntMap W b n m) (hn:n≤n'):IntMap W b n' m:=by
 obtain ⟨D,hD,r⟩:=h;exact ⟨D,hD.mono hn,r⟩
theorem IntMap.map {W:World} {b n:Nat} {m:Int→Option Value} (h:IntMap W b n m):∃ es clock,W.heap[b]? = some (.map es clock):=by
 obtain ⟨D,⟨es,clock,hes,r⟩,r2⟩:=h;exact ⟨es,clock,hes⟩
theorem atKey_none {D:DataW Value} {k:Lit} (hD:IsMap D) (h:Maps.has D k = false) (z:DataW Value):D.atKey k z = z:=by
 cases D with
 | map es =>
  simp only [Maps.has,List.any_eq_false] at h
  simp only [DataW.atKey]
  have:es.find? (fun p=>p.1.sameKey k) = none:=by
   rw [List.find?_eq_none];intro x hx;simpa using h x hx
  simp [this]
 | _=>simp [IsMap] at hD
theorem IntMap.look {w:World} {b n:Nat} {M:Int→Option Value} (h:IntMap w b n M) {t e:TypeId} (ht:Tryz.prog.underlying t = some (.map 3 e)) {z:Value} (hz:(zeroValue e).run Tryz.prog w = .ok z w) {key:Int} (hwf:(Lit.int .i64 key).wf = true) :
 (Instr.lookup t (.map (some b)) (.int .i64 key) true).run Tryz.prog w = .ok (.tuple #[(M key).getD z,.bool (M key).isSome]) w∧(Instr.lookup t (.map (some b)) (.int .i64 key) false).run Tryz.prog w = .ok ((M key).getD z) w:=by
 obtain ⟨D,hD,hh,ha⟩:=h
 have hkey:=keyOf_int_mk Tryz.underlying3 hwf
 have hv:∀ v,heldElem v = some (D.atKey (.int .i64 key) (.held z),[])→v = (M key).getD z:=fun v hv=>by
  unfold heldElem at hv
  simp only [Option.some.injEq,Prod.mk.injEq,and_true] at hv
  cases hm:M key with
  | none =>
   rw [atKey_none (hD.tidy lawInt).isMap (by rw [hh,hm];rfl)] at hv
   simpa using hv
  | some u =>
   rw [ha key u hm] at hv
   simpa using hv
 constructor
 ·obtain ⟨v,ps,hrun,hR⟩:=hD.look_ok lawInt ht hz (R:=heldElem) (zd:=.held z) (zp:=[]) rfl hkey
  have:ps = []:=by unfold heldElem at hR;simp at hR;exact hR.2
  subst this
  rw [hrun,hv v hR,hh]
 ·obtain ⟨v,ps,hrun,hR⟩:=hD.lookup lawInt ht hz (R:=heldElem) (zd:=.held z) (zp:=[]) rfl hkey
  have:ps = []:=by unfold heldElem at hR;simp at hR;exact hR.2
  subst this
  rw [hrun,hv v hR]
theorem IntMap.set {w:World} {b n:Nat} {M:Int→Option Value} (h:IntMap w b n M) {t e:TypeId} (ht:Tryz.prog.underlying t = some (.map 3 e)) (hn:n < maxLen) {key:Int} (hwf:(Lit.int .i64 key).wf = true) (v:Value) :
 ∃ w',(Instr.mapUpdate t (.map (some b)) (.int .i64 key) v).run Tryz.prog w = .ok () w'∧IntMap w' b (n+1) (upd M key v)∧w.grownBy w' (some b):=by
 obtain ⟨D,hD,hh,ha⟩:=h
 have hkey:=keyOf_int_mk Tryz.underlying3 hwf
 obtain ⟨w',hrun,h1,h2⟩:=hD.update (R:=heldElem) lawInt ht hn hkey (val:=v) (d:=.held v) (ps:=[]) rfl
 have hk:WideAt.IsKeyLit (.int .i64 key):=trivial
 refine ⟨w',hrun,⟨_,h1,fun x=>?_,fun x u hx z=>?_⟩,h2⟩
 ·by_cases e:x = key
  ·subst e;rw [has_put_same (hD.tidy lawInt).isMap hk,upd_same];rfl
  ·rw [has_put_other (by simp [e]),upd_other _ _ e,hh]
 ·by_cases e:x = key
  ·subst e;rw [upd_same] at hx;cases hx;exact atKey_put_same (hD.tidy lawInt).isMap hk _ _
  ·rw [upd_other _ _ e] at hx;rw [atKey_put_other (by simp [e])];exact ha x u hx z
section
variable (w:World) {ops:Array Oper} {rest:List Oper} {o:Oper} {a:Act} {Q:Exit→Act→World→Prop}
theorem wp_look_hit (hg:o.guard = none) (m x:Operand) (t:TypeId) (hop:o.op = Op.lookup t m x true) (e:TypeId) (ht:Tryz.prog.underlying t = some (.map 3 e)) {z:Value} (hz:(zeroValue e).run Tryz.prog w = .ok z w) (b n:Nat) (M:Int→Option Value)
 (hm:a.eval m = .map (some b)) (hI:IntMap w b n M) (key:Int) (hx:a.eval x = .int .i64 key) (hwf:(Lit.int .i64 key).wf = true) (v:Value) (hv:M key = some v)
 (hK:wpList Tryz.prog ops Q rest (a.put o.dst (.tuple #[v,.bool true])) w):wpList Tryz.prog ops Q (o :: rest) a w:=by
 refine wpList_plain hg fun K' hK'=>?_
 have hrun:=(hI.look ht hz hwf).1
 rw [hv] at hrun
 unfold Oper.wp
 simp [execOp,hop,hm,hx,hrun,Result.andThen]
 exact hK' _ _ hK
theorem wp_look_miss (hg:o.guard = none) (m x:Operand) (t:TypeId) (hop:o.op = Op.lookup t m x true) (e:TypeId) (ht:Tryz.prog.underlying t = some (.map 3 e)) {z:Value} (hz:(zeroValue e).run Tryz.prog w = .ok z w) (b n:Nat) (M:Int→Option Value)
 (hm:a.eval m = .map (some b)) (hI:IntMap w b n M) (key:Int) (hx:a.eval x = .int .i64 key) (hwf:(Lit.int .i64 key).wf = true) (hv:M key = none)
 (hK:wpList Tryz.prog ops Q rest (a.put o.dst (.tuple #[z,.bool false])) w):wpList Tryz.prog ops Q (o :: rest) a w:=by
 refine wpList_plain hg fun K' hK'=>?_
 have hrun:=(hI.look ht hz hwf).1
 rw [hv] at hrun
 unfold Oper.wp
 simp [execOp,hop,hm,hx,hrun,Result.andThen]
 exact hK' _ _ hK
theorem wp_mapset (hg:o.guard = none) (m x u:Operand) (t:TypeId) (hop:o.op = Op.mapUpdate t m x u) (e:TypeId) (ht:Tryz.prog.underlying t = some (.map 3 e)) (b n:Nat) (M:Int→Option Value)
 (hm:a.eval m = .map (some b)) (hI:IntMap w b n M) (hn:n < maxLen) (key:Int) (hx:a.eval x = .int .i64 key) (hwf:(Lit.int .i64 key).wf = true) (v:Value) (hv:a.eval u = v)
 (hK:∀ w',IntMap w' b (n+1) (upd M key v)→w.grownBy w' (some b)→wpList Tryz.prog ops Q rest (a.put o.dst undef) w'):wpList Tryz.prog ops Q (o :: rest) a w:=by
 refine wpList_plain hg fun K' hK'=>?_
 obtain ⟨w',hrun,h1,h2⟩:=hI.set ht hn hwf v
 unfold Oper.wp
 simp [execOp,hop,hm,hx,hv,hrun,Result.andThen]
 exact hK' _ _ (hK w' h1 h2)
end
section
variable {F:Fence} {nF:Nat} (w:World) {ops:Array Oper} {rest:List Oper} {o:Oper} {a:Act} {Q:Exit→Act→World→Prop}
theorem wpi_look (hg:o.guard = none) (m x:Operand) (t:TypeId) (hop:o.op = Op.lookup t m x false) (e:TypeId) (ht:Tryz.prog.underlying t = some (.map 3 e)) {z:Value} (hz:(zeroValue e).run Tryz.prog w = .ok z w) (b n:Nat) (M:Int→Option Value)
 (hm:a.eval m = .map (some b)) (hI:IntMap w b n M) (key:Int) (hx:a.eval x = .int .i64 key) (hwf:(Lit.int .i64 key).wf = true) (v:Value) (hv:(M key).getD z = v)
 (hK:wpListIn F nF Tryz.prog ops Q rest (a.put o.dst v) w):wpListIn F nF Tryz.prog ops Q (o :: rest) a w:=by
 refine wpListIn_plain hg fun K' hK'=>?_
 have hrun:=(hI.look ht hz hwf).2
 rw [hv] at hrun
 unfold Oper.wpIn
 refine ⟨by simp [Oper.about,hop],?_⟩
 rw [Oper.semAt_plain F _ _ (by rw [hop];intro c hc';cases hc')]
 simp [execOp,hop,hm,hx,hrun,Result.andThen]
 exact hK' _ _ hK
theorem wpi_mapset (hg:o.guard = none) (m x u:Operand) (t:TypeId) (hop:o.op = Op.mapUpdate t m x u) (e:TypeId) (ht:Tryz.prog.underlying t = some (.map 3 e)) (b n:Nat) (M:Int→Option Value)
 (hm:a.eval m = .map (some b)) (hI:IntMap w b n M) (hn:n < maxLen) (key:Int) (hx:a.eval x = .int .i64 key) (hwf:(Lit.int .i64 key).wf = true) (v:Value) (hv:a.eval u = v)
 (hK:∀ w',IntMap w' b (n+1) (upd M key v)→w.grownBy w' (some b)→wpListIn F nF Tryz.prog ops Q rest (a.put o.dst undef) w'):wpListIn F nF Tryz.prog ops Q (o :: rest) a w:=by
 refine wpListIn_plain hg fun K' hK'=>?_
 obtain ⟨w',hrun,h1,h2⟩:=hI.set ht hn hwf v
 unfold Oper.wpIn
 refine ⟨by simp [Oper.about,hop],?_⟩
 rw [Oper.semAt_plain F _ _ (by rw [hop];intro c hc';cases hc')]
 simp [execOp,hop,hm,hx,hv,hrun,Result.andThen]
 exact hK' _ _ (hK w' h1 h2)
end
end Go.Proofs.YtglohanbpjaieaaGreat
namespace Go.Proofs.YtglohanbpjaieaaGreat
open Go.Proofs Go.RowKit Go.Shelf
theorem Tm.run_app (l:List Int):∀ (r:List Int) (n:Nat),Tm.run l n≤l.length→Tm.run (l++r) n = Tm.run l n:=by
 induction l with
 | nil=>intro r n h;rw [Tm.run_nil] at h;have:n = 0:=by simpa using h
        subst this;simp [Tm.run_zero]
 | cons s l ih =>
  intro r n h
  cases n with
  | zero=>simp [Tm.run_zero]
  | succ n =>
   rw [List.cons_append,Tm.run_cons,Tm.run_cons,ih]
   rw [Tm.run_cons,List.length_cons] at h
   omega
theorem Tm.run_take (l:List Int):∀ (n:Nat),Tm.run l n≤l.length→Tm.run (l.take (Tm.run l n)) n = Tm.run l n:=by
 induction l with
 | nil=>intro n h;simp [Tm.run_nil]
 | cons s l ih =>
  intro n h
  cases n with
  | zero=>simp [Tm.run_zero]
  | succ n =>
   rw [Tm.run_cons] at h ⊢
   rw [List.length_cons] at h
   rw [show 1+Tm.run l (n+Tm.room s) = Tm.run l (n+Tm.room s)+1 from by omega,List.take_succ_cons,Tm.run_cons,ih _ (by omega)]
   omega
theorem Tm.run_open (l:List Int):∀ (r:List Int) (n:Nat),l.length < Tm.run (l++r) n→∃ m,∀ x,Tm.run (l++x) n = l.length+Tm.run x (m+1):=by
 induction l with
 | nil =>
  intro r n h
  cases n with
  | zero=>simp [Tm.run_zero] at h
  | succ n=>exact ⟨n,fun x=>by simp⟩
 | cons s l ih =>
  intro r n h
  cases n with
  | zero=>simp [Tm.run_zero] at h
  | succ n =>
   rw [List.cons_append,Tm.run_cons,List.length_cons] at h
   obtain ⟨m,hm⟩:=ih r (n+Tm.room s) (by omega)
   refine ⟨m,fun x=>?_⟩
   rw [List.cons_append,Tm.run_cons,hm,List.length_cons]
   omega
theorem Tm.split (zs:List Int) (k:Nat):zs = zs.take k++(Tm.part zs k++zs.drop (Tm.endAt zs k)):=by
 have hg:=Tm.endAt_gt zs k
 have hd:zs.drop (Tm.endAt zs k) = (zs.drop k).drop (Tm.endAt zs k - k):=by rw [List.drop_drop];congr 1;omega
 rw [hd,Tm.part,List.take_append_drop,List.take_append_drop]
theorem Tm.part_run {zs:List Int} (he:Tm.err zs = 0) {k:Nat} (hk:k < zs.length):Tm.run (Tm.part zs k) 1 = (Tm.part zs k).length:=by
 rw [Tm.part_length he hk]
 have h1:=Tm.end_in he hk
 have h2:Tm.endAt zs k - k = Tm.run (zs.drop k) 1:=by unfold Tm.endAt;omega
 unfold Tm.part
 rw [h2,Tm.run_take]
 rw [List.length_drop]
 omega
theorem Tm.part_all {zs:List Int} (he:Tm.err zs = 0) (k:Nat):(Tm.part zs k).all Tm.known = true:=by
 have h:=Tm.err_all he
 rw [List.all_eq_true] at h ⊢
 intro x hx
 exact h x (List.mem_of_mem_drop (List.mem_of_mem_take hx))
theorem Tm.part_err {zs:List Int} (he:Tm.err zs = 0) {k:Nat} (hk:k < zs.length):Tm.err (Tm.part zs k) = 0:=by
 refine Tm.err_ok ?_ (Tm.part_all he k) (Tm.part_run he hk)
 rw [Tm.part_length he hk]
 have:=Tm.end_in he hk
 have:=Tm.err_len he
 omega
theorem Tm.put_eq (zs us:List Int) (k:Nat):Tm.put zs k us = zs.take k++(us++zs.drop (Tm.endAt zs k)):=by unfold Tm.put;rw [List.append_assoc]
theorem Tm.put_run {zs us:List Int} (he:Tm.err zs = 0) (hu:Tm.run us 1 = us.length) {k:Nat} (hk:k < zs.length):Tm.run (Tm.put zs k us) 1 = (Tm.put zs k us).length:=by
 have hs:=Tm.split zs k
 have hr:=Tm.err_run he
 have hp:=Tm.part_run he hk
 have htl:(zs.take k).length = k:=by rw [List.length_take];omega
 generalize hP:Tm.part zs k = P at *
 rw [Tm.put_eq]
 generalize hA:zs.take k = A at *
 generalize hB:zs.drop (Tm.endAt zs k) = B at *
 clear hP hA hB
 rw [hs] at hr
 obtain ⟨m,hm⟩:=Tm.run_open A (P++B) 1 (by rw [hr];rw [← hs];omega)
 rw [hm,show m+1 = 1+m from by omega,Tm.run_add,Tm.run_app P B 1 (by omega),hp,List.drop_left] at hr
 rw [hm,show m+1 = 1+m from by omega,Tm.run_add,Tm.run_app us B 1 (by omega),hu,List.drop_left]
 simp only [List.length_append] at hr ⊢
 omega
theorem Tm.put_all {zs us:List Int} (he:Tm.err zs = 0) (hu:us.all Tm.known = true) (k:Nat):(Tm.put zs k us).all Tm.known = true:=by
 have h:=Tm.err_all he
 rw [List.all_eq_true] at h hu ⊢
 intro x hx
 unfold Tm.put at hx
 rw [List.mem_append,List.mem_append] at hx
 rcases hx with (hx | hx) | hx
 ·exact h x (List.mem_of_mem_take hx)
 ·exact hu x hx
 ·exact h x (List.mem_of_mem_drop hx)
theorem Tm.put_err {zs us:List Int} (he:Tm.err zs = 0) (hu:Tm.err us = 0) {k:Nat} (hk:k < zs.length) (hl:(Tm.put zs k us).length≤30):Tm.err (Tm.put zs k us) = 0 :=
 Tm.err_ok hl (Tm.put_all he (Tm.err_all hu) k) (Tm.put_run he (Tm.err_run hu) hk)
end Go.Proofs.YtglohanbpjaieaaGreat
namespace Go.Proofs.YtglohanbpjaieaaGreat
open Go.Proofs Go.RowKit Go.Shelf Go.Maps
abbrev Asg:=Int→Option (List Int)
def Tm.fitGo (t:List Int):List Int→Nat→Asg→Option Asg
 | [],_,m=>some m
 | s :: p,k,m=>if s < 0 then (if (m s).isSome = true∧m s≠some (Tm.part t k) then none else Tm.fitGo t p (Tm.endAt t k) (upd m s (Tm.part t k))) else if t[k]?.getD 0 = s then Tm.fitGo t p (k+1) m else none
def Tm.fit (p t:List Int):Option Asg:=Tm.fitGo t p 0 (fun _=>none)
theorem Tm.fitGo_nil (t:List Int) (k:Nat) (m:Asg):Tm.fitGo t [] k m = some m:=rfl
theorem Tm.fitGo_new {t p:List Int} {i k:Nat} {m:Asg} (hi:i < p.length) (hs:p[i]?.getD 0 < 0) (hm:m (p[i]?.getD 0) = none):Tm.fitGo t (p.drop i) k m = Tm.fitGo t (p.drop (i+1)) (Tm.endAt t k) (upd m (p[i]?.getD 0) (Tm.part t k)):=by
 rw [List.drop_eq_getElem_cons hi,Tm.fitGo]
 simp only [hi,List.getElem?_eq_getElem,Option.getD_some] at hs hm ⊢
 rw [if_pos hs,hm,if_neg (by simp)]
theorem Tm.fitGo_old {t p:List Int} {i k:Nat} {m:Asg} (hi:i < p.length) (hs:p[i]?.getD 0 < 0) (hm:m (p[i]?.getD 0) = some (Tm.part t k)):Tm.fitGo t (p.drop i) k m = Tm.fitGo t (p.drop (i+1)) (Tm.endAt t k) (upd m (p[i]?.getD 0) (Tm.part t k)):=by
 rw [List.drop_eq_getElem_cons hi,Tm.fitGo]
 simp only [hi,List.getElem?_eq_getElem,Option.getD_some] at hs hm ⊢
 rw [if_pos hs,if_neg (by simp [hm])]
theorem Tm.fitGo_clash {t p:List Int} {i k:Nat} {m:Asg} {zs:List Int} (hi:i < p.length) (hs:p[i]?.getD 0 < 0) (hm:m (p[i]?.getD 0) = some zs) (hne:zs≠Tm.part t k):Tm.fitGo t (p.drop i) k m = none:=by
 rw [List.drop_eq_getElem_cons hi,Tm.fitGo]
 simp only [hi,List.getElem?_eq_getElem,Option.getD_some] at hs hm ⊢
 rw [if_pos hs,if_pos (by simp [hm,hne])]
theorem Tm.fitGo_sym {t p:List Int} {i k:Nat} {m:Asg} (hi:i < p.length) (hs:¬ p[i]?.getD 0 < 0) (he:t[k]?.getD 0 = p[i]?.getD 0):Tm.fitGo t (p.drop i) k m = Tm.fitGo t (p.drop (i+1)) (k+1) m:=by
 rw [List.drop_eq_getElem_cons hi,Tm.fitGo]
 simp only [hi,List.getElem?_eq_getElem,Option.getD_some] at hs he ⊢
 rw [if_neg hs,if_pos he]
theorem Tm.fitGo_other {t p:List Int} {i k:Nat} {m:Asg} (hi:i < p.length) (hs:¬ p[i]?.getD 0 < 0) (he:t[k]?.getD 0≠p[i]?.getD 0):Tm.fitGo t (p.drop i) k m = none:=by
 rw [List.drop_eq_getElem_cons hi,Tm.fitGo]
 simp only [hi,List.getElem?_eq_getElem,Option.getD_some] at hs he ⊢
 rw [if_neg hs,if_neg he]
def Against (p t:List Int) (i k:Nat):Prop:=∃ o,Tm.run (p.drop i) o = p.length - i∧Tm.run (t.drop k) o = t.length - k∧i≤p.length∧k≤t.length
theorem Against.start {p t:List Int} (hp:Tm.err p = 0) (ht:Tm.err t = 0):Against p t 0 0:=⟨1,by simpa using Tm.err_run hp,by simpa using Tm.err_run ht,by omega,by omega⟩
theorem Against.pos {p t:List Int} {i k:Nat} (h:Against p t i k) (hi:i < p.length):k < t.length:=by
 obtain ⟨o,h1,h2,h3,h4⟩:=h
 have ho:o≠0:=by rintro rfl;rw [Tm.run_zero] at h1;omega
 have:=Tm.run_ge (t.drop k) o
 omega
theorem Tm.room_neg {s:Int} (h:s < 0):Tm.room s = 0:=by unfold Tm.room;rw [if_neg (by omega),if_neg (by omega)]
theorem Against.var {p t:List Int} {i k:Nat} (h:Against p t i k) (hi:i < p.length) (hs:p[i]?.getD 0 < 0):Against p t (i+1) (Tm.endAt t k):=by
 have hk:=h.pos hi
 obtain ⟨o,h1,h2,h3,h4⟩:=h
 have ho:o≠0:=by rintro rfl;rw [Tm.run_zero] at h1;omega
 obtain ⟨o,rfl⟩:∃ o',o = o'+1:=⟨o - 1,by omega⟩
 rw [Tm.run_step hi,Tm.room_neg hs] at h1
 rw [Nat.add_comm o 1,Tm.run_add] at h2
 have hle:Tm.endAt t k≤t.length:=by
  rw [show Tm.endAt t k = k+Tm.run (t.drop k) 1 from rfl]
  omega
 refine ⟨o,by simpa using (by omega:Tm.run (p.drop (i+1)) (o+0) = p.length - (i+1)),?_,by omega,hle⟩
 rw [List.drop_drop] at h2
 rw [show Tm.endAt t k = k+Tm.run (t.drop k) 1 from rfl] at hle ⊢
 omega
theorem Against.sym {p t:List Int} {i k:Nat} (h:Against p t i k) (hi:i < p.length) (he:t[k]?.getD 0 = p[i]?.getD 0):Against p t (i+1) (k+1):=by
 have hk:=h.pos hi
 obtain ⟨o,h1,h2,h3,h4⟩:=h
 have ho:o≠0:=by rintro rfl;rw [Tm.run_zero] at h1;omega
 obtain ⟨o,rfl⟩:∃ o',o = o'+1:=⟨o - 1,by omega⟩
 rw [Tm.run_step hi] at h1
 rw [Tm.run_step hk,he] at h2
 exact ⟨o+Tm.room (p[i]?.getD 0),by omega,by omega,by omega,by omega⟩
theorem Against.endAt_le {p t:List Int} {i k:Nat} (h:Against p t i k) (hi:i < p.length):Tm.endAt t k≤t.length:=by
 obtain ⟨o,h1,h2,h3,h4⟩:=h
 have ho:o≠0:=by rintro rfl;rw [Tm.run_zero] at h1;omega
 obtain ⟨o,rfl⟩:∃ o',o = o'+1:=⟨o - 1,by omega⟩
 rw [Nat.add_comm o 1,Tm.run_add] at h2
 rw [show Tm.endAt t k = k+Tm.run (t.drop k) 1 from rfl]
 omega
def Reads (n:Nat) (W:World) (v:Value) (zs:List Int):Prop:=∃ b off c,v = .slice (some ⟨b,off,none⟩) zs.length c∧Ints n W (some ⟨b,off,none⟩) zs∧zs.length≤c∧c≤maxLen∧zs.length≤30
theorem Reads.below {n:Nat} {W W':World} {v:Value} {zs:List Int} (h:Reads n W v zs) (hB:Below n W W'):Reads n W' v zs:=by
 obtain ⟨b,off,c,rfl,hI,h1⟩:=h
 exact ⟨b,off,c,rfl,hI.below hB,h1⟩
def FitAt (n:Nat) (W:World) (bm N:Nat) (m:Asg):Prop:=∃ M,IntMap W bm N M∧(∀ s,m s = none→M s = none)∧∀ s zs,m s = some zs→∃ v,M s = some v∧Reads n W v zs
theorem FitAt.upd {n:Nat} {W W':World} {bm N:Nat} {m:Asg} {s:Int} {v:Value} {zs:List Int} {M:Int→Option Value} (h1:∀ s,m s = none→M s = none) (h2:∀ s zs,m s = some zs→∃ v,M s = some v∧Reads n W v zs)
 (h3:IntMap W' bm N (upd M s v)) (hB:Below n W W') (hv:Reads n W v zs):FitAt n W' bm N (upd m s zs):=by
 refine ⟨_,h3,fun x hx=>?_,fun x ys hx=>?_⟩
 ·by_cases e:x = s
  ·subst e;rw [upd_same] at hx;cases hx
  ·rw [upd_other _ _ e] at hx ⊢;exact h1 x hx
 ·by_cases e:x = s
  ·subst e;rw [upd_same] at hx;cases hx;exact ⟨v,upd_same _ _ _,hv.below hB⟩
  ·rw [upd_other _ _ e] at hx
   obtain ⟨u,hu,hr⟩:=h2 x ys hx
   exact ⟨u,by rw [upd_other _ _ e];exact hu,hr.below hB⟩
def Tm.fitL (m:Asg) (k:Nat):List (List Int):=(List.range 8).map fun i:Nat=>if i < k then (m (-1 - (i:Int))).getD [-1 - (i:Int)] else [-1 - (i:Int)]
theorem Tm.fitL_length (m:Asg) (k:Nat):(Tm.fitL m k).length = 8:=by simp [Tm.fitL]
theorem Tm.fitL_zero (m:Asg):Tm.fitL m 0 = Tm.noneL 8:=by simp [Tm.fitL,Tm.noneL]
theorem Tm.fitL_none {m:Asg} {k:Nat} (h:m (-1 - (k:Int)) = none):Tm.fitL m (k+1) = Tm.fitL m k:=by
 unfold Tm.fitL
 refine List.map_congr_left fun i _=>?_
 by_cases e:i = k
 ·subst e;rw [if_pos (by omega),if_neg (by omega),h];rfl
 ·by_cases hl:i < k
  ·rw [if_pos (by omega),if_pos hl]
  ·rw [if_neg (by omega),if_neg hl]
theorem Tm.fitL_some {m:Asg} {k:Nat} {zs:List Int} (h:m (-1 - (k:Int)) = some zs):Tm.fitL m (k+1) = (Tm.fitL m k).set k zs:=by
 refine List.ext_getElem (by simp [Tm.fitL]) fun i h1 h2=>?_
 simp only [Tm.fitL,List.length_map,List.length_range] at h1
 by_cases e:i = k
 ·subst e
  rw [List.getElem_set_self]
  simp [Tm.fitL,h]
 ·rw [List.getElem_set_ne (by omega)]
  simp only [Tm.fitL,List.getElem_map,List.getElem_range]
  by_cases hl:i < k
  ·rw [if_pos (by omega),if_pos hl]
  ·rw [if_neg (by omega),if_neg hl]
def Tm.fitErr (p t:List Int):Int:=Tm.firstErr [p,t]
def Tm.fitIs (p t:List Int):Bool:=if Tm.fitErr p t = 0 then (Tm.fit p t).isSome else false
def Tm.fitOut:Option Asg→List (List Int)
 | some m=>Tm.fitL m 8
 | none=>[]
def Tm.fitVal (p t:List Int):List (List Int):=if Tm.fitErr p t = 0 then Tm.fitOut (Tm.fit p t) else []
theorem Tm.fitErr_ok {p t:List Int} (h:Tm.fitErr p t = 0):Tm.err p = 0∧Tm.err t = 0:=by
 have:=Tm.firstErr_all h
 exact ⟨by simpa using this 0 (by simp),by simpa using this 1 (by simp)⟩
theorem Tm.fitErr_of {p t:List Int} (h1:Tm.err p = 0) (h2:Tm.err t = 0):Tm.fitErr p t = 0:=by simp [Tm.fitErr,Tm.firstErr,h1,h2]
theorem Tm.fit_bad {p t:List Int} (h:Tm.fitErr p t≠0):Tm.fitIs p t = false∧Tm.fitVal p t = []:=by
 constructor
 ·unfold Tm.fitIs;rw [if_neg h]
 ·unfold Tm.fitVal;rw [if_neg h]
theorem Tm.fit_no {p t:List Int} (h:Tm.fitErr p t = 0) (hf:Tm.fit p t = none):Tm.fitIs p t = false∧Tm.fitVal p t = []:=by
 constructor
 ·unfold Tm.fitIs;rw [if_pos h,hf];rfl
 ·unfold Tm.fitVal;rw [if_pos h,hf];rfl
theorem Tm.fit_yes {p t:List Int} {m:Asg} (h:Tm.fitErr p t = 0) (hf:Tm.fit p t = some m):Tm.fitIs p t = true∧Tm.fitVal p t = Tm.fitL m 8:=by
 constructor
 ·unfold Tm.fitIs;rw [if_pos h,hf];rfl
 ·unfold Tm.fitVal;rw [if_pos h,hf];rfl
set_option maxRecDepth 100000 in
set_option maxHeartbeats 1000000 in
theorem equal_any (xs ys:List Int) (a b:Option Addr) (ca cb:Nat) (w:World) (hX:Ints w.heap.size w a xs) (hY:Ints w.heap.size w b ys) (hm:xs.length≤maxLen) :
 Calls Tryz.prog 31 #[.slice a xs.length ca,.slice b ys.length cb] w fun e w'=>e = .returned (.bool (sameB xs ys))∧Below w.heap.size w w':=by
 unfold maxLen at hm
 by_cases hl:xs.length = ys.length
 ·have hne:((xs.length:Int) != (ys.length:Int)) = false:=by simp [hl]
  have Hl:Hid (xs.length = ys.length):=hl
  clear hl
  go_enter Tryz.func31,Tryz.ntmps31
  go_wp2
  go_loopw [13] (fun i wr=>∃ k:Nat,k≤xs.length∧i = .int .i64 (k:Int)∧Hid (xs.take k = ys.take k)∧Below w.heap.size w wr) (fun i _=>xs.length - (intOf i).toNat)
  case atStart=>exact ⟨0,Nat.zero_le _,rfl,by simp [Hid],Below.refl _ _⟩
  case round =>
   obtain ⟨k,hk,rfl,hsame,hB⟩:=hrel
   by_cases hlt:k < xs.length
   ·have hlt':(k:Int) < (xs.length:Int):=by omega
    have hly:k < ys.length:=by have:=Hl.out;omega
    have hly':(k:Int) < (ys.length:Int):=by omega
    obtain ⟨b1,off1,rfl,hb1,hc1⟩:=(hX.below hB).at (by omega)
    obtain ⟨b2,off2,rfl,hb2,hc2⟩:=(hY.below hB).at (by omega)
    have hx:=hc1 k hlt
    have hy:=hc2 k hly
    have hst:=show Hid _ from @same_step xs ys k hlt hly hsame.out
    have hno:=show Hid _ from @same_not xs ys k
    clear hc1 hc2 hX hY hly
    generalize xs[k]?.getD 0 = s at *
    generalize ys[k]?.getD 0 = u at *
    by_cases he:s = u
    ·have hn:(s != u) = false:=by simp [he]
     have He:Hid (s = u):=he
     clear he hno
     go_wp2
     go_quiet (fail)
     go_wp2
     go_roundw
     case rel=>exact ⟨k+1,by omega,by go_num,hst.out He.out,below_drewN hB _⟩
     case measure=>simp [intOf];omega
    ·have hn:(s != u) = true:=by simp [he]
     have hf:=show Hid _ from hno.out he
     clear he hno hst
     go_wp2
     go_quiet (fail)
     go_wp2
     go_ret
     exact ⟨by rw [hf.out];rfl,below_drewN hB _⟩
   ·obtain rfl:k = xs.length:=by omega
    have hy:=show Hid _ from same_yes hsame.out Hl.out
    clear hX hY
    go_wp2
    go_ret
    exact ⟨by rw [hy.out];rfl,hB⟩
 ·have hne:((xs.length:Int) != (ys.length:Int)) = true:=by simp;omega
  rw [same_len hl]
  clear hl hX hY
  go_enter Tryz.func31,Tryz.ntmps31
  go_wp2
  go_ret
  exact ⟨rfl,Below.refl _ _⟩
theorem zeroTerm (w:World):(zeroValue 35).run Tryz.prog w = .ok (.slice none 0 0) w:=by kernel_rfl
def FitAns (w w':World) (e:Ending):Option Asg→Prop
 | none=>e = .returned (.tuple #[.map none,.bool false])
 | some m=>∃ bm N,e = .returned (.tuple #[.map (some bm),.bool true])∧w.heap.size≤bm∧FitAt w.heap.size w' bm N m
set_option maxRecDepth 100000 in
set_option maxHeartbeats 1000000 in
theorem fit_any (p t:List Int) (ap at':Option Addr) (cp ct:Nat) (w:World) (hp:Tm.err p = 0) (ht:Tm.err t = 0) (hP:Ints w.heap.size w ap p) (hT:Ints w.heap.size w at' t) (hct:t.length≤ct) (hct2:ct≤maxLen) :
 Calls Tryz.prog 72 #[.slice ap p.length cp,.slice at' t.length ct] w fun e w'=>Below w.heap.size w w'∧FitAns w w' e (Tm.fit p t):=by
 have hp30:=Tm.err_len hp
 have ht30:=Tm.err_len ht
 have h8:=Tm.known8 hp
 have h6:=fun k (hk:k < p.length)=>Tm.known_lt (Tm.all_at (Tm.err_all hp) hk)
 have hAg:=hid (Against.start hp ht)
 obtain ⟨b,off,rfl,hb,hc⟩:=hT.at (Tm.err_pos ht)
 obtain ⟨b2,off2,rfl,hb2,hc2⟩:=hP.at (Tm.err_pos hp)
 have hmm:=@run_makeMap Tryz.prog
 have hct3:ct≤9223372036854775807:=hct2
 have HT:=hid hT
 have Hc:=hid hc
 have Hc2:=hid hc2
 have H8:=hid h8
 have H6:=hid h6
 have hl1:(p.length:Int)≤30:=by omega
 have hl2:(t.length:Int)≤30:=by omega
 clear hT hP hc hc2 h8 h6 hp ht
 go_enter Tryz.func72,Tryz.ntmps72
 go_wp2
 go_loopw [7,16] (fun q i wr=>∃ (j k:Nat) (m:Asg),j≤p.length∧k≤t.length∧i = .int .i64 (j:Int)∧q = .int .i64 (k:Int)∧Hid (Tm.fit p t = Tm.fitGo t (p.drop j) k m)∧Hid (Against p t j k)∧Below w.heap.size w wr∧Hid (FitAt w.heap.size wr w.heap.size j m)) (fun _ i _=>p.length - (intOf i).toNat)
 case atStart=>exact ⟨0,0,fun _=>none,Nat.zero_le _,Nat.zero_le _,rfl,rfl,by simp [Hid,Tm.fit],hAg,(Below.refl _ _).alloc (Nat.le_refl _) _,⟨_,IntMap.made w,fun _ _=>rfl,fun _ _ h=>by cases h⟩⟩
 case round =>
  obtain ⟨j,k,m,hj,hk,rfl,rfl,hfit,hag,hB,hF⟩:=hrel
  by_cases hlt:j < p.length
  ·have hlt':(j:Int) < (p.length:Int):=by omega
   have hkt:=hag.out.pos hlt
   have hkt':(k:Int) < (t.length:Int):=by omega
   have hcj:=(hB.cell (p:=⟨b2,off2+j,none⟩) hb2).trans (Hc2.out j hlt)
   have hck:=(hB.cell (p:=⟨b,off+k,none⟩) hb).trans (Hc.out k hkt)
   by_cases hs:p[j]?.getD 0 < 0
   ·have hE:=end_any t ht30 (some ⟨b,off,none⟩) ct k (by omega) wr ((HT.out.below hB).mono hB.size)
    have hle:=hag.out.endAt_le hlt
    have hgt:=Tm.endAt_gt t k
    have hag2:=hid (hag.out.var hlt hs)
    have Hpl:Hid ((Tm.part t k).length = Tm.endAt t k - k):=by show _ = _;simp only [Tm.part,List.length_take,List.length_drop];omega
    have HIs:=hid (HT.out.sub k (Tm.endAt t k - k))
    have hnew:=hid (fun h=>hfit.out.trans (Tm.fitGo_new (t:=t) (k:=k) (m:=m) hlt hs h))
    have hold:=hid (fun h=>hfit.out.trans (Tm.fitGo_old (t:=t) (k:=k) (m:=m) hlt hs h))
    have hcl:=hid (fun zs h1 h2=>hfit.out.trans (Tm.fitGo_clash (t:=t) (k:=k) (m:=m) (zs:=zs) hlt hs h1 h2))
    have hwf:=hid (wf64 (s:=p[j]?.getD 0) (by have:=H8.out j hlt;omega) (by have:=H6.out j hlt;omega))
    have HIs':Hid (Ints w.heap.size w (some ⟨b,off+k,none⟩) (Tm.part t k)):=HIs
    clear hck HIs hfit hag
    generalize p[j]?.getD 0 = s at *
    generalize Tm.part t k = pt at *
    generalize Tm.endAt t k = q at *
    have h1:(k:Int)≤(q:Int):=by omega
    have h2:(q:Int)≤(ct:Int):=by omega
    have h3:¬ ct - k = 0:=by omega
    have Hq:Hid (q = k+pt.length):=by have:=Hpl.out;show _ = _;omega
    obtain ⟨M,hM,hn,hso⟩:=hF.out
    have hrd:Hid (Reads w.heap.size w (.slice (some ⟨b,off+k,none⟩) (q - k) (ct - k)) pt):=⟨b,off+k,ct - k,by rw [Hpl.out],HIs'.out,by have:=Hpl.out;omega,by omega,by have:=Hpl.out;omega⟩
    clear hF
    cases hms:m s with
    | none =>
     have hMs:=hid (hn s hms)
     have hst:=hid (hnew.out hms)
     have Hn:=hid hn
     have Hso:=hid hso
     have HM:=hid hM
     clear hnew hold hcl hms hn hso hM
     go_wp2_with (first
      | (go_at_call 69;refine hE.mono ?_;clear hE;rintro e w1 ⟨rfl,hB1⟩;have hM1:=hid (HM.out.keep (hB1.block _ HM.out.lt));have hB2:=hB.trans (hB1.mono hB.size))
      | (at_lookup;go_loud (refine wp_look_miss _ rfl _ _ 102 rfl 35 Tryz.underlying102 (zeroTerm _) w.heap.size j M rfl hM1.out s rfl hwf.out hMs.out ?_))
      | (at_mapUpdate;go_loud (refine wp_mapset _ rfl _ _ _ 102 rfl 35 Tryz.underlying102 w.heap.size j M rfl hM1.out (by unfold maxLen;omega) s rfl hwf.out _ rfl ?_);intro w2 hM2 hg2))
     have hB3:Below w.heap.size w w2:=hB2.grown hg2 hB2.size (fun x e=>by simp at e;omega)
     go_roundw
     case rel=>exact ⟨j+1,q,_,by omega,by omega,by go_num,rfl,hst,hag2,hB3,FitAt.upd Hn.out (fun x zs h=>by obtain ⟨v,h1,h2⟩:=Hso.out x zs h;exact ⟨v,h1,h2.below (hB1.mono hB.size)⟩) hM2 (Below.grown (Below.refl _ _) hg2 hB2.size (fun x e=>by simp at e;omega)) (hrd.out.below hB2)⟩
     case measure=>simp [intOf];omega
    | some zs =>
     obtain ⟨v,hMs,b3,off3,c3,rfl,hI3,hc3,hc4,_⟩:=hso s zs hms
     have hEq:∀ W,Below wr.heap.size wr W→Calls Tryz.prog 31 #[.slice (some ⟨b3,off3,none⟩) zs.length c3,.slice (some ⟨b,off+k,none⟩) (q - k) (ct - k)] W fun e w'=>e = .returned (.bool (sameB zs pt))∧Below W.heap.size W w':=fun W hW=>by
      rw [← Hpl.out]
      exact equal_any zs pt _ _ c3 (ct - k) W (((hI3.below (hW.mono hB.size)).mono (by have:=hW.size;have:=hB.size;omega))) (((HIs'.out.below hB).below (hW.mono hB.size)).mono (by have:=hW.size;have:=hB.size;omega)) (by omega)
     have HEq:=hid hEq
     have HMs:=hid hMs
     have Hn:=hid hn
     have Hso:=hid hso
     have HM:=hid hM
     clear hEq hMs hn hso hM hI3
     by_cases he:zs = pt
     ·subst he
      have hsb:sameB zs zs = true:=by simp [sameB]
      have hst:=hid (hold.out hms)
      clear hnew hold hcl hms
      go_wp2_with (first
       | (go_at_call 69;refine hE.mono ?_;clear hE;rintro e w1 ⟨rfl,hB1⟩;have hM1:=hid (HM.out.keep (hB1.block _ HM.out.lt));have hB2:=hB.trans (hB1.mono hB.size))
       | (at_lookup;go_loud (refine wp_look_hit _ rfl _ _ 102 rfl 35 Tryz.underlying102 (zeroTerm _) w.heap.size j M rfl hM1.out s rfl hwf.out _ HMs.out ?_))
       | (go_at_call 31;refine (HEq.out _ hB1).mono ?_;rw [hsb];rintro e w3 ⟨rfl,hB3⟩;have hM3:=hid (hM1.out.keep (hB3.block _ hM1.out.lt));have hB4:=hB2.trans (hB3.mono hB2.size))
       | (at_mapUpdate;go_loud (refine wp_mapset _ rfl _ _ _ 102 rfl 35 Tryz.underlying102 w.heap.size j M rfl hM3.out (by unfold maxLen;omega) s rfl hwf.out _ rfl ?_);intro w2 hM2 hg2))
      have hB5:Below w.heap.size w w2:=hB4.grown hg2 hB4.size (fun x e=>by simp at e;omega)
      go_roundw
      case rel=>exact ⟨j+1,q,_,by omega,by omega,by go_num,rfl,hst,hag2,hB5,FitAt.upd Hn.out (fun x zs h=>by obtain ⟨v,h1,h2⟩:=Hso.out x zs h;exact ⟨v,h1,(h2.below (hB1.mono hB.size)).below (hB3.mono hB2.size)⟩) hM2 (Below.grown (Below.refl _ _) hg2 hB4.size (fun x e=>by simp at e;omega)) (hrd.out.below hB4)⟩
      case measure=>simp [intOf];omega
     ·have hsb:sameB zs pt = false:=by simp [sameB,he]
      have hst:=hid (hcl.out zs hms he)
      clear hnew hold hcl hms he
      go_wp2_with (first
       | (go_at_call 69;refine hE.mono ?_;clear hE;rintro e w1 ⟨rfl,hB1⟩;have hM1:=hid (HM.out.keep (hB1.block _ HM.out.lt));have hB2:=hB.trans (hB1.mono hB.size))
       | (at_lookup;go_loud (refine wp_look_hit _ rfl _ _ 102 rfl 35 Tryz.underlying102 (zeroTerm _) w.heap.size j M rfl hM1.out s rfl hwf.out _ HMs.out ?_))
       | (go_at_call 31;refine (HEq.out _ hB1).mono ?_;rw [hsb];rintro e w3 ⟨rfl,hB3⟩;have hM3:=hid (hM1.out.keep (hB3.block _ hM1.out.lt));have hB4:=hB2.trans (hB3.mono hB2.size)))
      go_ret2
      exact ⟨hB4,by rw [hst.out];rfl⟩
   ·have hsy:=hid (fun h=>hfit.out.trans (Tm.fitGo_sym (t:=t) (k:=k) (m:=m) hlt hs h))
    have hot:=hid (fun h=>hfit.out.trans (Tm.fitGo_other (t:=t) (k:=k) (m:=m) hlt hs h))
    have hag2:=hid (fun h=>hag.out.sym hlt h)
    clear hfit hag
    generalize p[j]?.getD 0 = s at *
    generalize t[k]?.getD 0 = u at *
    by_cases he:u = s
    ·have hn:(u != s) = false:=by simp [he]
     have hst:=hid (hsy.out he)
     have hag3:=hid (hag2.out he)
     clear hsy hot he hag2
     go_wp2
     go_roundw
     case rel=>exact ⟨j+1,k+1,m,by omega,by omega,by go_num,by go_num,hst,hag3,hB,by obtain ⟨M,h1,h2⟩:=hF.out;exact ⟨M,h1.mono (by omega),h2⟩⟩
     case measure=>simp [intOf];omega
    ·have hn:(u != s) = true:=by simp [he]
     have hst:=hid (hot.out he)
     clear hsy hot he hag2
     go_wp2
     go_ret2
     exact ⟨hB,by rw [hst.out];rfl⟩
  ·obtain rfl:j = p.length:=by omega
   go_wp2
   go_ret2
   exact ⟨hB,by rw [hfit.out,List.drop_length,Tm.fitGo_nil];exact ⟨_,_,rfl,Nat.le_refl _,hF.out⟩⟩
set_option maxRecDepth 100000 in
set_option maxHeartbeats 400000 in
theorem firstError_any (ss:List (List Int)) (hl:ss.length≤1000) (a:Option Addr) (cap:Nat) (w:World) (hS:Subs w.heap.size w a ss) :
 Calls Tryz.prog 71 #[.slice a ss.length cap] w fun e w'=>e = .returned (.int .i64 (Tm.firstErr ss))∧Below w.heap.size w w':=by
 have HS:=hid hS
 have hl':(ss.length:Int)≤1000:=by omega
 clear hS
 go_enter Tryz.func71,Tryz.ntmps71
 go_wp2
 go_loopw [8] (fun i wr=>∃ k:Nat,k≤ss.length∧i = .int .i64 (k:Int)∧Hid (Tm.firstErr ss = Tm.firstErr (ss.drop k))∧Below w.heap.size w wr) (fun i _=>ss.length - (intOf i).toNat)
 case atStart=>exact ⟨0,Nat.zero_le _,rfl,rfl,Below.refl _ _⟩
 case round =>
  obtain ⟨k,hk,rfl,hf,hB⟩:=hrel
  by_cases hlt:k < ss.length
  ·have hlt':(k:Int) < (ss.length:Int):=by omega
   obtain ⟨b,off,rfl,hb,hc⟩:=HS.out.at (by omega)
   obtain ⟨aj,cj,hcj,hIj,_⟩:=hc k hlt
   have hcj':=(hB.cell (p:=⟨b,off+k,none⟩) hb).trans hcj
   have hC:=check_any (ss[k]?.getD []) aj cj wr ((hIj.below hB).mono hB.size)
   have hst:=hid (Tm.firstErr_step (ss:=ss) (k:=k) hlt)
   have hsp:=hid (Tm.firstErr_stop (ss:=ss) (k:=k) hlt)
   clear hcj hIj hc
   generalize ss[k]?.getD [] = t at *
   by_cases he:Tm.err t = 0
   ·have hst':=hid (hf.out.trans (hst.out he))
    rw [he] at hC
    clear hst hsp he hf
    go_wp2_with (go_at_call 49;refine hC.mono ?_;clear hC;rintro e w1 ⟨rfl,hB1⟩)
    go_roundw
    case rel=>exact ⟨k+1,by omega,by go_num,hst'.out,hB.trans (hB1.mono hB.size)⟩
    case measure=>simp [intOf];omega
   ·have hsp':=hid (hf.out.trans (hsp.out he))
    have hne:(Tm.err t != 0) = true:=by simp [he]
    clear hst hsp he hf
    generalize Tm.err t = q at *
    go_wp2_with (go_at_call 49;refine hC.mono ?_;clear hC;rintro e w1 ⟨rfl,hB1⟩)
    go_ret
    exact ⟨by rw [hsp'.out];rfl,hB.trans (hB1.mono hB.size)⟩
  ·obtain rfl:k = ss.length:=by omega
   have h0:Hid (Tm.firstErr ss = 0):=by
    show _ = _
    rw [hf.out,List.drop_length]
    rfl
   clear hf
   go_wp2
   go_ret
   exact ⟨by rw [h0.out];rfl,hB⟩
theorem subs_two (W:World) (p t:List Int) (ap at':Option Addr) (cp ct n:Nat) (hn:n = W.heap.size+1) (hP:Ints W.heap.size W ap p) (hT:Ints W.heap.size W at' t) (h1:p.length≤cp∧cp≤maxLen∧(ap = none→cp = 0)) (h2:t.length≤ct∧ct≤maxLen∧(at' = none→ct = 0)) :
 Subs n (W.alloc (.cells #[.slice ap p.length cp,.slice at' t.length ct] 35)) (some ⟨W.heap.size,0,none⟩) [p,t]:=by
 have hB:Below W.heap.size W (W.alloc (.cells #[.slice ap p.length cp,.slice at' t.length ct] 35)):=(Below.refl _ _).alloc (Nat.le_refl _) _
 have hnew:=World.alloc_heap_new W (.cells #[.slice ap p.length cp,.slice at' t.length ct] 35)
 intro j hj
 simp only [List.length_cons,List.length_nil] at hj
 match j,hj with
 | 0,_=>exact ⟨W.heap.size,0,ap,cp,rfl,by omega,(cell_at hnew 0).trans rfl,(hP.below hB).mono (by omega),h1⟩
 | 1,_=>exact ⟨W.heap.size,0,at',ct,rfl,by omega,(cell_at hnew 1).trans rfl,(hT.below hB).mono (by omega),h2⟩
theorem first_two (p t:List Int) (ap at':Option Addr) (cp ct:Nat) (W:World) (hP:Ints W.heap.size W ap p) (hT:Ints W.heap.size W at' t) (h1:p.length≤cp∧cp≤maxLen∧(ap = none→cp = 0)) (h2:t.length≤ct∧ct≤maxLen∧(at' = none→ct = 0)) :
 Calls Tryz.prog 71 #[.slice (some ⟨W.heap.size,0,none⟩) 2 2] (W.alloc (.cells #[.slice ap p.length cp,.slice at' t.length ct] 35)) fun e w'=>e = .returned (.int .i64 (Tm.fitErr p t))∧Below W.heap.size W w' :=
 (firstError_any [p,t] (by simp) _ 2 _ (subs_two W p t ap at' cp ct _ (by simp) hP hT h1 h2)).mono fun e w' ⟨h,hB⟩=>⟨h,((Below.refl _ _).alloc (Nat.le_refl _) _).trans (hB.mono (by simp))⟩
theorem newS_cell {base:Nat} {W:World} {g c:Nat} {ss:List (List Int)} (h:NewS base W (.slice (some ⟨g,0,none⟩) 8 c) ss) (hl:ss.length = 8) {k:Nat} (hk:k < 8) :
 base≤g∧∃ x,W.cell? ⟨g,k,none⟩ = some x∧W.frozen? ⟨g,k,none⟩ = false:=by
 obtain ⟨us,h1,_⟩:=h
 rw [hl] at h1
 have hus:us.length = 8:=by have:=h1.1;omega
 have c0:=World.ownsRow.cellAt h1 k (by omega)
 rw [List.getElem?_eq_getElem (by omega)] at c0
 exact ⟨(World.ownsRow.lt h1 g rfl).1,_,c0,World.ownsRow.frozenAt h1 k⟩
set_option maxRecDepth 100000 in
set_option maxHeartbeats 1000000 in
theorem Fit_any (p t:List Int) (ap at':Option Addr) (cp ct:Nat) (w:World) (hP:Ints w.heap.size w ap p) (hT:Ints w.heap.size w at' t) (h1:p.length≤cp∧cp≤maxLen∧(ap = none→cp = 0)) (h2:t.length≤ct∧ct≤maxLen∧(at' = none→ct = 0)) :
 Calls Tryz.prog 51 #[.slice ap p.length cp,.slice at' t.length ct] w fun e w'=>∃ v,e = .returned (.tuple #[v,.bool (Tm.fitIs p t),.int .i64 (Tm.fitErr p t)])∧NewS w.heap.size w' v (Tm.fitVal p t)∧Below w.heap.size w w':=by
 have hC:=first_two p t ap at' cp ct w hP hT h1 h2
 by_cases he:Tm.fitErr p t = 0
 ·obtain ⟨hp,ht⟩:=Tm.fitErr_ok he
  have hfit:∀ W,Below w.heap.size w W→Calls Tryz.prog 72 #[.slice ap p.length cp,.slice at' t.length ct] W fun e w'=>Below W.heap.size W w'∧FitAns W w' e (Tm.fit p t):=fun W hW =>
   fit_any p t ap at' cp ct W hp ht ((hP.below hW).mono hW.size) ((hT.below hW).mono hW.size) h2.1 h2.2.1
  cases hf:Tm.fit p t with
  | none =>
   obtain ⟨e1,e2⟩:=Tm.fit_no he hf
   rw [hf] at hfit
   rw [e1,e2,he]
   rw [he] at hC
   have HF:=hid hfit
   clear hfit hf e1 e2 hp ht he hP hT h1 h2
   go_enter Tryz.func51,Tryz.ntmps51
   go_wp2_with (first
    | (go_at_call 71;refine hC.mono ?_;clear hC;rintro e w1 ⟨rfl,hB1⟩)
    | (go_at_call 72;refine (HF.out _ hB1).mono ?_;rintro e w2 ⟨hB2,rfl⟩;have hB3:=hB1.trans (hB2.mono hB1.size)))
   go_ret3
   exact ⟨_,rfl,NewS.nil _ _,hB3⟩
  | some m =>
   obtain ⟨e1,e2⟩:=Tm.fit_yes he hf
   rw [hf] at hfit
   rw [e1,e2,he]
   rw [he] at hC
   have HF:=hid hfit
   clear hfit hf e1 e2 hp ht he hP hT h1 h2
   go_enter Tryz.func51,Tryz.ntmps51
   go_wp2_with (first
    | (go_at_call 71;refine hC.mono ?_;clear hC;rintro e w1 ⟨rfl,hB1⟩)
    | (go_at_call 72;refine (HF.out _ hB1).mono ?_;rintro e w2 ⟨hB2,bm,N,rfl,hbm,M,hM,hMn,hMs⟩;have hB3:=hB1.trans (hB2.mono hB1.size);have HMn:=hid hMn;have HMs:=hid hMs;have HM:=hid hM;clear hMn hMs hM)
    | (go_at_call 73;refine (none_any _).mono ?_;rintro e w3 ⟨v,rfl,hN,hB4⟩;have hB5:=hB3.trans (hB4.mono hB3.size);have hlen:(Tm.noneL 8).length = 8:=Tm.noneL_length 8;obtain ⟨g,c,rfl⟩:∃ g c,v = .slice (some ⟨g,0,none⟩) 8 c:=(by obtain ⟨us,h1,_⟩:=hN;rw [hlen] at h1;exact ownsRow_succ h1)))
   have hM3:=hid (HM.out.keep (hB4.block _ HM.out.lt))
   have hgm:g≠bm:=by
    obtain ⟨us,h1,_⟩:=hN
    have:=(World.ownsRow.lt h1 g rfl).1
    have:=HM.out.lt
    omega
   have hg2:w2.heap.size≤g:=by
    obtain ⟨us,h1,_⟩:=hN
    exact (World.ownsRow.lt h1 g rfl).1
   have HN:=hid hN
   clear hN HM hlen
   go_loopw [32] (fun i wr=>∃ k:Nat,k≤8∧i = .int .i64 (k:Int)∧Hid (NewS w.heap.size wr (.slice (some ⟨g,0,none⟩) 8 c) (Tm.fitL m k))∧Hid (IntMap wr bm N M)∧Below w1.heap.size w2 wr) (fun i _=>8 - (intOf i).toNat)
   case atStart=>exact ⟨0,Nat.zero_le _,rfl,by rw [Tm.fitL_zero];exact HN.out.mono hB3.size,hM3,hB4.mono hB2.size⟩
   case round =>
    obtain ⟨k,hk,rfl,hNk,hMk,hBk⟩:=hrel
    by_cases hlt:k < 8
    ·have hlt':(k:Int) < 8:=by omega
     have hk0:(0:Int)≤(k:Int):=by omega
     have hwf:=hid (wf64 (s:=-1 - (k:Int)) (by omega) (by omega))
     cases hm:m (-1 - (k:Int)) with
     | none =>
      have hMs:=hid (HMn.out _ hm)
      have hst:=hid (Tm.fitL_none hm)
      clear hm
      go_wp2_with (first
       | (at_lookup;go_loud (refine wp_look_miss _ rfl _ _ 102 rfl 35 Tryz.underlying102 (zeroTerm _) bm N M rfl hMk.out (-1 - (k:Int)) rfl hwf.out hMs.out ?_)))
      go_roundw
      case rel=>exact ⟨k+1,by omega,by go_num,by rw [hst.out];exact hNk.out,hMk,hBk⟩
      case measure=>simp [intOf];omega
     | some zs =>
      obtain ⟨v,hMs,b3,off3,c3,rfl,hI3,_,_,h30⟩:=HMs.out _ zs hm
      have hst:=hid (Tm.fitL_some hm)
      have HMv:=hid hMs
      have hs12:=hB2.size
      have hCl:=clone_any zs b3 off3 c3 wr h30 ((hI3.below hBk).mono (by have:=hBk.size;omega))
      clear hm hMs hI3
      go_wp2_with (first
       | (at_lookup;go_loud (refine wp_look_hit _ rfl _ _ 102 rfl 35 Tryz.underlying102 (zeroTerm _) bm N M rfl hMk.out (-1 - (k:Int)) rfl hwf.out _ HMv.out ?_))
       | (go_at_call 47;refine hCl.mono ?_;clear hCl;rintro e w5 ⟨u,rfl,hNu,hBu⟩;obtain ⟨au,cu,rfl,_⟩:=New.ints hNu;have hN5:=hid (hNk.out.below hBu);obtain ⟨hg5,x5,hc5,hf5⟩:=newS_cell hN5.out (Tm.fitL_length m k) hlt))
      have hBs:Below w.heap.size w wr:=hB1.trans ((hB2.trans hBk).mono hB1.size)
      go_roundw
      case rel =>
       refine ⟨k+1,by omega,by go_num,?_,?_,?_⟩
       ·rw [hst.out]
        exact hN5.out.set (Tm.fitL_length m k).symm (hNu.mono hBs.size) k
       ·exact (hMk.out.keep (hBu.block _ hMk.out.lt)).keep (Below.heap_setCell _ _ _ _ (fun e=>hgm e.symm))
       ·exact (hBk.trans (hBu.mono (by have:=hBk.size;omega))).setCell (p:=⟨g,k,none⟩) (show w1.heap.size≤g by omega) _
      case measure=>simp [intOf];omega
    ·obtain rfl:k = 8:=by omega
     go_wp2
     go_ret3
     exact ⟨_,rfl,hNk.out,hB1.trans ((hB2.trans hBk).mono hB1.size)⟩
 ·obtain ⟨e1,e2⟩:=Tm.fit_bad he
  rw [e1,e2]
  have hne:(Tm.fitErr p t != 0) = true:=by simp [he]
  clear hP hT e1 e2 he h1 h2
  generalize Tm.fitErr p t = q at *
  go_enter Tryz.func51,Tryz.ntmps51
  go_wp2_with (first
   | (go_at_call 71;refine hC.mono ?_;clear hC;rintro e w1 ⟨rfl,hB1⟩))
  go_ret3
  exact ⟨_,rfl,NewS.nil _ _,hB1⟩
abbrev ptr (X:Nat):Value:=.pointer (some ⟨X,0,none⟩)
def PartsAt (lo hi:Nat) (W:World) (v:Value) (Xs:List Nat):Prop:=∃ a c,v = .slice a Xs.length c∧∀ j,j < Xs.length→∃ b off,a = some ⟨b,off,none⟩∧lo≤b∧b < hi∧W.cell? ⟨b,off+j,none⟩ = some (ptr (Xs[j]?.getD 0))
inductive TreeIn (lo hi:Nat) (W:World):Nat→List Int→Prop
 | mk (X:Nat) (s:Int) (v:Value) (Xs:List Nat) (zss:List (List Int)):lo≤X→X < hi→Node W X s v→PartsAt lo hi W v Xs→Xs.length = Tm.room s→zss.length = Xs.length →
  (∀ j,j < Xs.length→TreeIn lo hi W (Xs[j]?.getD 0) (zss[j]?.getD []))→TreeIn lo hi W X (s :: zss.flatten)
theorem PartsAt.keep {lo hi lo' hi':Nat} {W W':World} {v:Value} {Xs:List Nat} (h:PartsAt lo hi W v Xs) (h1:lo'≤lo) (h2:hi≤hi') (hk:∀ k,lo≤k→k < hi→W'.heap[k]? = W.heap[k]?):PartsAt lo' hi' W' v Xs:=by
 obtain ⟨a,c,rfl,hc⟩:=h
 refine ⟨a,c,rfl,fun j hj=>?_⟩
 obtain ⟨b,off,e,hb1,hb2,hcell⟩:=hc j hj
 exact ⟨b,off,e,by omega,by omega,(World.cell?_of_block (a:=⟨b,off+j,none⟩) (hk b hb1 hb2)).trans hcell⟩
theorem TreeIn.keep {lo hi lo' hi':Nat} {W W':World} {X:Nat} {zs:List Int} (h:TreeIn lo hi W X zs) (h1:lo'≤lo) (h2:hi≤hi') (hk:∀ k,lo≤k→k < hi→W'.heap[k]? = W.heap[k]?):TreeIn lo' hi' W' X zs:=by
 induction h with
 | mk X s v Xs zss hX1 hX2 hN hP hr hl _ ih =>
  exact TreeIn.mk X s v Xs zss (by omega) (by omega) ((hk X hX1 hX2).trans hN) (hP.keep h1 h2 hk) hr hl ih
theorem TreeIn.under {lo hi n:Nat} {W W':World} {X:Nat} {zs:List Int} (h:TreeIn lo hi W X zs) (hB:Below n W W') (hn:hi≤n):TreeIn lo hi W' X zs :=
 h.keep (Nat.le_refl _) (Nat.le_refl _) fun k _ hk=>hB.block k (by omega)
theorem TreeIn.wide {lo hi lo' hi':Nat} {W:World} {X:Nat} {zs:List Int} (h:TreeIn lo hi W X zs) (h1:lo'≤lo) (h2:hi≤hi'):TreeIn lo' hi' W X zs:=h.keep h1 h2 fun _ _ _=>rfl
theorem Tm.parts_flat {zs:List Int} {m:Nat} (hm:Tm.pos zs 0 (m+1)≤zs.length):(zs.take (Tm.pos zs 0 (m+1))).drop 1 = (zs.take (Tm.pos zs 0 m)).drop 1++(zs.drop (Tm.pos zs 0 m)).take (Tm.pos zs 0 (m+1) - Tm.pos zs 0 m):=by
 have h1:=Tm.pos_mono zs 0 m (m+1) (by omega)
 have h0:1≤Tm.pos zs 0 m:=Tm.pos_gt zs 0 m
 rw [show zs.take (Tm.pos zs 0 (m+1)) = zs.take (Tm.pos zs 0 m)++(zs.drop (Tm.pos zs 0 m)).take (Tm.pos zs 0 (m+1) - Tm.pos zs 0 m) from by
  rw [← List.take_add];congr 1;omega]
 rw [List.drop_append_of_le_length]
 simp only [List.length_take]
 omega
def GrownSt (base:Nat) (wr:World) (zs:List Int) (m:Nat) (v:Value) (xs:List Value):Prop :=
 ∃ (Xs:List Nat) (zss:List (List Int)),Xs.length = m∧zss.length = m∧xs = Xs.map ptr∧zss.flatten = (zs.take (Tm.pos zs 0 m)).drop 1 ∧
  ∀ j,j < m→∃ lo hi,base < lo∧hi≤wr.heap.size∧TreeIn lo hi wr (Xs[j]?.getD 0) (zss[j]?.getD [])∧∀ k,v.ownBlock = some k→k < lo∨hi≤k
theorem GrownSt.start (base:Nat) (wr:World) (zs:List Int) (v:Value) (xs:List Value) (h:xs = []):GrownSt base wr zs 0 v xs :=
 ⟨[],[],rfl,rfl,by rw [h];rfl,by rw [Tm.pos_zero];simp,fun j hj=>by omega⟩
theorem GrownSt.step {base lo hi:Nat} {wr w2 w3:World} {zs pt:List Int} {m:Nat} {v v':Value} {xs:List Value} {p:Nat} (h:GrownSt base wr zs m v xs) (hlo:lo = wr.heap.size) (hb:base < lo) (hlo2:lo≤hi) (hB1:∀ k,k < lo→w2.heap[k]? = wr.heap[k]?)
 (hT:TreeIn lo hi w2 p pt) (hown:∀ k,v.ownBlock = some k→k < lo) (hown':v'.ownBlock = v.ownBlock∨∃ q,v'.ownBlock = some q∧hi≤q) (hs3:hi≤w3.heap.size)
 (hk:∀ k,base < k→k < hi→(∀ q,v.ownBlock = some q→k≠q)→w3.heap[k]? = w2.heap[k]?)
 (hpt:pt = (zs.drop (Tm.pos zs 0 m)).take (Tm.pos zs 0 (m+1) - Tm.pos zs 0 m)) (hle:Tm.pos zs 0 (m+1)≤zs.length):GrownSt base w3 zs (m+1) v' (xs++[ptr p]):=by
 obtain ⟨Xs,zss,h1,h2,h3,h4,h5⟩:=h
 refine ⟨Xs++[p],zss++[pt],by simp [h1],by simp [h2],by simp [h3],by rw [List.flatten_append,h4,Tm.parts_flat hle,hpt];simp,fun j hj=>?_⟩
 by_cases hjm:j < m
 ·obtain ⟨l,h,e1,e2,hTj,e3⟩:=h5 j hjm
  refine ⟨l,h,e1,by omega,?_,?_⟩
  ·rw [List.getElem?_append_left (by omega),List.getElem?_append_left (by omega)]
   refine hTj.keep (Nat.le_refl _) (Nat.le_refl _) fun k hk1 hk2=>?_
   rw [hk k (by omega) (by omega) (fun q hq=>by have:=e3 q hq;omega),hB1 k (by omega)]
  ·intro k hk'
   rcases hown' with e | ⟨q,e,hq⟩
   ·exact e3 k (by rw [← e];exact hk')
   ·rw [e] at hk'
    have:q = k:=by simpa using hk'
    exact .inr (by omega)
 ·obtain rfl:j = m:=by omega
  refine ⟨lo,hi,hb,hs3,?_,?_⟩
  ·rw [List.getElem?_append_right (by omega),List.getElem?_append_right (by omega),h1,h2]
   simp only [Nat.sub_self,List.getElem?_cons_zero,Option.getD_some]
   refine hT.keep (Nat.le_refl _) (Nat.le_refl _) fun k hk1 hk2=>hk k (by omega) hk2 (fun q hq=>by have:=hown q hq;omega)
  ·intro k hk'
   rcases hown' with e | ⟨q,e,hq⟩
   ·exact .inl (hown k (by rw [← e];exact hk'))
   ·rw [e] at hk'
    have:q = k:=by simpa using hk'
    exact .inr (by omega)
theorem GrownSt.done {base r:Nat} {wr:World} {zs:List Int} {s:Int} {v:Value} {xs:List Value} (h:GrownSt base wr zs r v xs) (hN:Node wr base s v) (hown:wr.ownsRow (base+1) 117 1 v r xs) (hr:r = Tm.room s) (hs:zs[0]?.getD 0 = s) (h0:0 < zs.length) :
 TreeIn base wr.heap.size wr base (zs.take (Tm.pos zs 0 r)):=by
 obtain ⟨Xs,zss,h1,h2,h3,h4,h5⟩:=h
 have hz:zs.take (Tm.pos zs 0 r) = s :: zss.flatten:=by
  rw [h4]
  have hp:0 < Tm.pos zs 0 r:=Tm.pos_gt zs 0 r
  cases zs with
  | nil=>simp at h0
  | cons a l =>
   simp at hs
   subst hs
   obtain ⟨q,hq⟩:∃ q,Tm.pos (a :: l) 0 r = q+1:=⟨Tm.pos (a :: l) 0 r - 1,by omega⟩
   rw [hq]
   simp
 rw [hz]
 refine TreeIn.mk base s v Xs zss (Nat.le_refl _) hN.lt hN ?_ (by omega) (by omega) (fun j hj=>?_)
 ·rcases hown.2 with ⟨rfl,hn⟩ | ⟨g,cap,cur,rfl,hb,hg,_⟩
  ·exact ⟨none,0,by rw [h1,hn],fun j hj=>by omega⟩
  ·refine ⟨_,cap,by rw [h1],fun j hj=>⟨g,0,rfl,by omega,(Array.getElem?_eq_some_iff.1 hg).1,?_⟩⟩
   have h5:=World.ownsRow.cellAt hown j (by omega)
   rw [Nat.zero_add,h5,h3]
   simp [hj]
 ·obtain ⟨lo,hi,e1,e2,hT,_⟩:=h5 j (by omega)
  exact hT.wide (by omega) e2
end Go.Proofs.YtglohanbpjaieaaGreat
