/-
  Parts of the proof: Plain2, Plain3, Plain4, Plain5, Row2, IntMap, True1, Fit1, Fit2, Fit3, Tree1.
-/
import Derived.Test.YtglohanbpjaieaaGreatBru2
import Derived.Maps.OwnIn
set_option maxHeartbeats 1000000
set_option maxRecDepth 100000
namespace Go.Proofs.YtglohanbpjaieaaGreat
open Go.Proofs Go.RowKit Go.Shelf Go.Maps
theorem nI:Keyed Tryz.prog 3:=int_keyed Tryz.underlying3
theorem lZ (w:World):(zeroValue 3).run Tryz.prog w = .ok (.int .i64 0) w:=by kernel_rfl
theorem WC {s:Int} (h1:-1000≤s) (h2:s≤1000):(Lit.int .i64 s).wf = true:=by
 simp [Lit.wf,IntKind.min,IntKind.max,IntKind.signed,IntKind.bits];omega
theorem MN (seen:List Int) (s:Int) (Bf Bm:Nat) (w:World) (h8:-8≤s) (h6:s < 6) (hl:seen.length≤500) (hF:iA w Bf Bm seen) :
 Calls Tryz.prog 118 #[.int .i64 s,.pointer (some ⟨Bf,0,none⟩)] w fun e w'=>∃ b,e = .returned (.slice (some b) 1 1)∧Ints w'.heap.size w' (some b) [Tm.name seen s]∧iA w' Bf Bm (Tm.see seen s)∧w.grownBy w' (some Bm):=by
 by_cases hs:s < 0
 ·have hkey:=keyOf_int_mk Tryz.underlying3 (WC (s:=s) (by omega) (by omega))
  obtain ⟨hc,D,hown,hM⟩:=hF;have hh:=hM.has s;cases hct:seen.contains s with
  | true =>
   rw [hct] at hh;have hat':=hM.at_ s hct;have hnm:Tm.name seen s = -1 - (Tm.idx seen s:Int):=by unfold Tm.name;rw [if_pos hs]
   have hse:Tm.see seen s = seen:=by unfold Tm.see;rw [if_pos hs,if_pos hct]
   rw [hse];have XL:=hid hnm;have Hat:=hid hat';have HF:Hid (iA w Bf Bm seen):=⟨hc,D,hown,hM⟩;have Hh:=hid hh;clear hnm hat' hse hh hct hM;go_enter Tryz.func118,Tryz.ntmps118;go_wp2_with (first
    | (at_lookup;go_loud (refine wpList_lookup_own_ok_int _ rfl _ _ 154 rfl 3 3 .i64 nI Tryz.underlying154 Tryz.underlying3 (lZ _) Bm seen.length D rfl hown _ _ rfl hkey ?_);intro c hat hwc;rw [Hh.out];obtain rfl:-1 - (Tm.idx seen s:Int) = c:=(by have:=Hat.out.symm.trans hat;simpa using this)))
   go_ret;have h:=fH w [Tm.name seen s] _ rfl;simp only [List.map_cons,List.map_nil] at h;rw [XL.out] at h ⊢;exact ⟨_,rfl,by simpa using h,HF.out.keep (Below.heap_alloc _ _ _ HF.out.lt.1) (Below.heap_alloc _ _ _ HF.out.lt.2),World.grownBy_alloc _ _ _⟩
  | false =>
   rw [hct] at hh;have hnm:Tm.name seen s = -1 - (seen.length:Int):=by unfold Tm.name;rw [if_pos hs,Tm.II hct]
   have hse:Tm.see seen s = seen++[s]:=by unfold Tm.see;rw [if_pos hs,if_neg (by rw [hct];decide)]
   rw [hse];have XL:=hid hnm;have Hh:=hid hh;have Hsz:=hid hM.size;have HM:=hid (hM.put (hown.tidy nI) hct);have hl':(seen.length:Int)≤500:=by omega
   have hBm:=hown.lt;have hBf:Bf < w.heap.size:=lt_of_cell hc;have hne:Bf≠Bm:=by
    obtain ⟨es,clock,hb,_⟩:=hown;exact lC hc hb
   have Hne:=hid hne;clear hnm hse hh hct hM hne;go_enter Tryz.func118,Tryz.ntmps118;go_wp2_with (first
    | (at_lookup;go_loud (refine wpList_lookup_own_ok_int _ rfl _ _ 154 rfl 3 3 .i64 nI Tryz.underlying154 Tryz.underlying3 (lZ _) Bm seen.length D rfl hown _ _ rfl hkey ?_);intro c hat hwc;rw [Hh.out])
    | (at_len;go_loud (refine wpList_len_own _ rfl _ 154 rfl 3 3 Tryz.underlying154 _ Bm seen.length D rfl hown ?_);rw [Hsz.out])
    | (at_mapUpdate;go_loud (refine wpList_mapUpdate_own _ rfl _ _ _ 154 rfl 3 3 nI Tryz.underlying154 _ Bm seen.length D rfl hown (by unfold maxLen;omega) _ (.int .i64 (-1 - (seen.length:Int))) _ rfl rfl hkey (.lit (.int .i64 (-1 - (seen.length:Int)))) [] (plainElem_int Tryz.underlying3 (WC (by omega) (by omega))) ?_);intro w1 hown1 hgrow1))
   go_ret;have h:=fH w1 [Tm.name seen s] _ rfl;simp only [List.map_cons,List.map_nil] at h;rw [XL.out] at h ⊢;have hs1:=hgrow1.size;refine ⟨_,rfl,by simpa using h,⟨?_,_,?_,HM.out⟩,?_⟩
   ·rw [World.cell?_of_block (a:=⟨Bf,0,none⟩) (Below.heap_alloc w1 _ Bf (by omega)),World.cell?_of_block (a:=⟨Bf,0,none⟩) (hgrow1.block Bf hBf (by simpa using Hne.out))]
    exact hc
   ·rw [List.length_append]
    exact World.ownsMap.alloc hown1 _
   ·exact ⟨hgrow1.os,hgrow1.tape,hgrow1.output,by simp;omega,fun k hk hm=>(Below.heap_alloc w1 _ k (by omega)).trans (hgrow1.block k hk hm)⟩
 ·have hnm:Tm.name seen s = s:=by unfold Tm.name;rw [if_neg hs]
  have hse:Tm.see seen s = seen:=by unfold Tm.see;rw [if_neg hs]
  rw [hse,hnm];have HF:=hid hF;clear hnm hse hF;go_enter Tryz.func118,Tryz.ntmps118;go_wp2;go_ret;have h:=fH w [s] _ rfl;simp only [List.map_cons,List.map_nil] at h;exact ⟨_,rfl,by simpa using h,HF.out.keep (Below.heap_alloc _ _ _ HF.out.lt.1) (Below.heap_alloc _ _ _ HF.out.lt.2),World.grownBy_alloc _ _ _⟩
theorem rH (seen:List Int) (t:List Int) (at':Option Addr) (ct Bf Bm:Nat) (w:World) (ht:t.length≤100) (hl:seen.length≤200) (h8:∀ k,k < t.length→-8≤t[k]?.getD 0) (h6:∀ k,k < t.length→t[k]?.getD 0 < 6)
 (hF:iA w Bf Bm seen) (hT:Ints w.heap.size w at' t) :
 Calls Tryz.prog 109 #[.slice at' t.length ct,.func (.func 118) #[] #[.pointer (some ⟨Bf,0,none⟩)]] w fun e w' =>
  ∃ v,e = .returned v∧New w.heap.size w' v (Tm.eU seen t t.length)∧iA w' Bf Bm (Tm.aT seen t)∧aW w.heap.size Bm w w':=by
 have hlen:(t.length:Int)≤100:=by omega
 obtain ⟨hlf,hlm⟩:=hF.lt;obtain ⟨es,clock,hmap⟩:=hF.map;have HF:=hid hF;have HT:=hid hT;have H8:=hid h8;have H6:=hid h6;have agQ:=hid hmap;clear hF hT h8 h6 hmap;go_enter Tryz.func109,Tryz.ntmps109;go_wp2;go_loopw [5,10] (fun v i wr=>∃ k:Nat,k≤t.length∧i = .int .i64 (k:Int)∧New w.heap.size wr v (Tm.eU seen t k)∧iA wr Bf Bm (Tm.aT seen (t.take k))∧aW w.heap.size Bm w wr) (fun _ i _=>t.length - (intOf i).toNat)
 case atStart=>exact ⟨0,Nat.zero_le _,rfl,New.nil _ _,HF.out,aW.refl _ _ _⟩
 case round =>
  obtain ⟨k,hk,rfl,hN,hFr,hK⟩:=hrel;by_cases hlt:k < t.length
  ·have hlt':(k:Int) < (t.length:Int):=by omega
   obtain ⟨b,off,rfl,hb,hc⟩:=HT.out.at (by omega);have hck:wr.cell? ⟨b,off+k,none⟩ = some (.int .i64 (t[k]?.getD 0)):=(World.cell?_of_block (a:=⟨b,off+k,none⟩) (hK.block b hb (lC (hc k hlt) agQ.out))).trans (hc k hlt);have hsl:=Tm.D8 (t.take k) seen;rw [List.length_take] at hsl;have hf:=MN (Tm.aT seen (t.take k)) (t[k]?.getD 0) Bf Bm wr (H8.out k hlt) (H6.out k hlt) (by omega) hFr;have hsn:=hid (Tm.o8 seen t k);have agR:=hid (Tm.BP seen hlt);have Hpl:=hid (Tm.bH seen t k);clear hc hsl hFr;generalize Tm.name (Tm.aT seen (t.take k)) (t[k]?.getD 0) = nm at *;generalize Tm.see (Tm.aT seen (t.take k)) (t[k]?.getD 0) = seen' at *;generalize t[k]?.getD 0 = s at *;generalize Tm.eU seen t k = xs at *;obtain ⟨a0,c0,rfl,_⟩:=New.ints hN;go_wp2_with (first
    | (go_at_call 118;refine hf.mono ?_;clear hf;rintro e w1 ⟨b1,rfl,hI1,hF1,hg1⟩;have hN1:New w.heap.size w1 (.slice a0 xs.length c0) xs:=World.ownsRow.kept hN hg1 (by cases h:(Value.slice a0 xs.length c0).ownBlock with | none=>exact .inl rfl | some q=>exact .inr (by have:=(World.ownsRow.lt hN q h).1;simp;omega));have hK1:=hK.trans (aW.jg hg1 hK.size))
    | (at_builtin;go_loud (refine aK _ rfl _ _ rfl w.heap.size _ xs rfl hN1 (some b1) [nm] 1 rfl (fun e=>by cases e) hI1 (by simp [Hpl.out];omega) hK1.size ?_);intro v' w2 eH hB3;obtain ⟨a2,c2,rfl,_⟩:=New.ints eH))
   go_roundw
   case rel=>exact ⟨k+1,by omega,by go_num,by rw [hsn.out];simpa using eH,by rw [agR.out];exact hF1.keep (hB3.block Bf hlf) (hB3.block Bm hlm),hK1.trans (aW.of_below hB3)⟩
   case measure=>simp [intOf];omega
  ·obtain rfl:k = t.length:=by omega
   rw [List.take_length] at hFr;obtain ⟨a2,c2,rfl,_⟩:=New.ints hN;go_wp2;go_ret;exact ⟨_,rfl,hN,hFr,hK⟩
def Tm.plain (t:List Int):List Int:=Tm.eU [] t t.length
theorem Tm.Ic {t:List Int} (h:Tm.err t = 0):∀ k,k < t.length→t[k]?.getD 0 < 6:=fun _ hk=>Tm.gK (Tm.lq (Tm.dH h) hk)
theorem Tm.BS {seen:List Int} (h:seen.Nodup) (s:Int):(Tm.see seen s).Nodup:=by
 unfold Tm.see;split
 ·split
  ·exact h
  ·rename_i hc
   have:¬ s∈seen:=by simpa using hc
   rw [List.nodup_append];exact ⟨h,by simp,fun x hx y hy=>by simp at hy;subst hy;rintro rfl;exact this hx⟩
 ·exact h
theorem Tm.pz (t:List Int):∀ seen:List Int,seen.Nodup→(Tm.aT seen t).Nodup:=by
 induction t with
 | nil=>intro seen h;exact h
 | cons s l ih=>intro seen h;exact ih _ (Tm.BS h s)
theorem Tm.YS {seen:List Int} (hn:seen.Nodup) {i:Nat} (hi:i < seen.length) {s:Int} (h:seen[i]?.getD 0 = s):Tm.idx seen s = i:=by
 unfold Tm.idx;have h':seen[i] = s:=by simpa [hi] using h
 rw [List.findIdx_eq hi];refine ⟨by simp [h'],fun j hj=>?_⟩;simp only [beq_eq_false_iff_ne];intro e;exact (List.pairwise_iff_getElem.1 hn) j i (by omega) hi hj (e.trans h'.symm)
theorem Tm.YT {seen:List Int} {i:Nat} (hi:i < seen.length) {s:Int} (h:seen[i]?.getD 0 = s):seen.contains s = true:=by
 have h':seen[i] = s:=by simpa [hi] using h
 simp only [List.contains_iff_mem];rw [← h'];exact List.getElem_mem hi
theorem Tm.VU {seen:List Int} {s:Int} (h:∀ i,i < seen.length→seen[i]?.getD 0≠s):seen.contains s = false:=by
 rw [Bool.eq_false_iff];intro hc;have hm:s∈seen:=by simpa using hc
 obtain ⟨i,hi,e⟩:=List.getElem_of_mem hm;exact h i hi (by simp [hi,e])
def Tm.half (t:List Int) (k:Nat):List Int:=Tm.eU [] t k++t.drop k
theorem Tm.Qv (t:List Int):Tm.half t 0 = t:=by simp [Tm.half,Tm.eU]
theorem Tm.TK (t:List Int):Tm.half t t.length = Tm.plain t:=by simp [Tm.half,Tm.plain]
theorem Tm.Cu {t:List Int} {k:Nat} (h:k≤t.length):(Tm.half t k).length = t.length:=by
 simp only [Tm.half,List.length_append,Tm.bH,List.length_drop];omega
theorem Tm.QN {t:List Int} {k:Nat} (h:k < t.length):Tm.half t (k+1) = (Tm.half t k).set k (Tm.name (Tm.aT [] (t.take k)) (t[k]?.getD 0)):=by
 unfold Tm.half;rw [Tm.o8,List.set_append_right _ _ (by rw [Tm.bH];exact Nat.le_refl _),Tm.bH,Nat.sub_self,List.drop_eq_getElem_cons h,List.set_cons_zero,List.append_assoc];rfl
theorem Tm.QO {t:List Int} {k:Nat} (h:k < t.length) (hs:0≤t[k]?.getD 0):Tm.half t (k+1) = Tm.half t k:=by
 unfold Tm.half;have hn:Tm.name (Tm.aT [] (t.take k)) (t[k]?.getD 0) = t[k]?.getD 0:=by unfold Tm.name;rw [if_neg (by omega)]
 rw [Tm.o8,hn,List.drop_eq_getElem_cons h];simp [h]
theorem Tm.Us {seen:List Int} {s:Int} (hs:0≤s):Tm.see seen s = seen:=by unfold Tm.see;rw [if_neg (by omega)]
theorem Tm.VW {seen:List Int} {s:Int} (h:seen.contains s = true):Tm.see seen s = seen:=by unfold Tm.see;rw [if_pos h];split <;> rfl
theorem Tm.VV {seen:List Int} {s:Int} (hs:s < 0) (h:seen.contains s = false):Tm.see seen s = seen++[s]:=by unfold Tm.see;rw [if_pos hs,if_neg (by rw [h];decide)]
theorem New.set {base:Nat} {W:World} {g c n:Nat} {zs:List Int} (h:New base W (.slice (some ⟨g,0,none⟩) n c) zs) (hn:n = zs.length) (j:Nat) (x:Int) :
 New base (W.setCell ⟨g,j,none⟩ (.int .i64 x)) (.slice (some ⟨g,0,none⟩) n c) (zs.set j x):=by
 subst hn;have:=(World.ownsRow.stored h j (.int .i64 x)).1
 unfold New;rw [List.length_set,List.map_set];exact this
theorem Tryz.EG:Tryz.prog.underlying 22 = some (.slice 3):=by kernel_rfl
theorem mP {ops:Array Oper} {rest:List Oper} {o:Oper} {a:Act} {Q:Exit→Act→World→Prop} (w:World) (hgd:o.guard = none) (s x:Operand)
 (ho:o.op = .call { callee:=.builtin .append,args:=#[s,x],argTypes:=#[22,22] }) (base:Nat) (v:Value) (xs:List Int) (hs:a.eval s = v) (hN:New base w v xs)
 (B:Nat) (y:Int) (hx:a.eval x = .slice (some ⟨B,0,none⟩) 1 1) (hB:w.cell? ⟨B,0,none⟩ = some (.int .i64 y)) (hlen:xs.length≤1000000) (hbase:base≤w.heap.size)
 (h:∀ v' w',New base w' v' (xs++[y])→w.grownBy w' v.ownBlock→Below base w w'→wpList Tryz.prog ops Q rest (a.put o.dst v') w'):wpList Tryz.prog ops Q (o :: rest) a w:=by
 obtain ⟨i0,hi,hz0,hz1,hz2⟩:=info_parts Tryz.info3;refine wpList_append_own w hgd s x 22 ho base 3 i0 (.int .i64 0) 1 8 Tryz.EG hi hz0 hz1 hz2 rfl (by decide) v xs.length (xs.map (Value.int .i64)) hs hN ⟨B,0,none⟩ 1 1 [.int .i64 y] hx (by simp)
  (by intro j z hj
      match j,hj with
      | 0,hj=>simp at hj;subst hj;rw [Go.WideShapes.add_plain];simpa using hB)
  (by intro z hz;simp at hz;subst hz;rfl) (by unfold maxLen;omega) (by omega) hbase ?_
 intro v' w' hown hg _;exact h v' w' (by simpa [New] using hown) hg ((Below.refl base w).grown hg hbase (fun k e=>(World.ownsRow.lt hN k e).1))
theorem New.drewN {base:Nat} {W:World} {v:Value} {zs:List Int} (h:New base W v zs) (d:Nat):New base (W.drewN d) v zs:=h
theorem New.Mv {base:Nat} {W:World} {g n c:Nat} {zs:List Int} (h:New base W (.slice (some ⟨g,0,none⟩) n c) zs):base≤g∧g < W.heap.size:=World.ownsRow.lt h g rfl
theorem New.XB {base:Nat} {W:World} {v:Value} {zs:List Int} (h:New base W v zs) (h0:0 < zs.length):∃ g c,v = .slice (some ⟨g,0,none⟩) zs.length c∧(∀ j,j < zs.length→W.cell? ⟨g,j,none⟩ = some (.int .i64 (zs[j]?.getD 0)))∧∀ j,W.frozen? ⟨g,j,none⟩ = false:=by
 obtain ⟨m,hm⟩:∃ m,zs.length = m+1:=⟨zs.length - 1,by omega⟩;have h':W.ownsRow base 3 1 v (m+1) (zs.map (Value.int .i64)):=by rw [← hm];exact h
 obtain ⟨g,c,rfl⟩:=ownsRow_succ h';rw [← hm] at h';refine ⟨g,c,by rw [hm],fun j hj=>?_,fun j=>?_⟩
 ·have:=World.ownsRow.cellAt (by rw [hm] at h';exact h') j (by omega)
  rw [this];simp [hj]
 ·exact World.ownsRow.frozenAt (by rw [hm] at h';exact h') j
def nE (w W1:World) (t:List Int) (g n c k:Nat) (vs:Value) (wr:World):Prop :=
 New W1.heap.size wr vs (Tm.aT [] (t.take k))∧New w.heap.size wr (.slice (some ⟨g,0,none⟩) n c) (Tm.half t k)∧Below w.heap.size w wr∧W1.heap.size≤wr.heap.size
theorem nE.same {w W1:World} {t:List Int} {g n c k:Nat} {vs:Value} {wr:World} (h:nE w W1 t g n c k vs wr) (hk:k < t.length) (hs:0≤t[k]?.getD 0):nE w W1 t g n c (k+1) vs wr:=by
 obtain ⟨h1,h2,h3,h4⟩:=h;refine ⟨?_,?_,h3,h4⟩
 ·rw [Tm.BP [] hk,Tm.Us hs];exact h1
 ·rw [Tm.QO hk hs];exact h2
theorem nE.store {w W1:World} {t:List Int} {g n c k:Nat} {vs:Value} {wr:World} (hg:g < W1.heap.size) (hn:n = t.length) (hk:k < t.length)
 (h1:New W1.heap.size wr vs (Tm.aT [] (t.take (k+1)))) (h2:New w.heap.size wr (.slice (some ⟨g,0,none⟩) n c) (Tm.half t k)) (h3:Below w.heap.size w wr) (h4:W1.heap.size≤wr.heap.size)
 (x:Int) (hx:x = Tm.name (Tm.aT [] (t.take k)) (t[k]?.getD 0)):nE w W1 t g n c (k+1) vs (wr.setCell ⟨g,k,none⟩ (.int .i64 x)):=by
 have hgr:=dz wr g k (.int .i64 x);refine ⟨World.ownsRow.kept h1 hgr (.inr fun e=>?_),?_,h3.setCell (p:=⟨g,k,none⟩) h2.Mv.1 _,Nat.le_trans h4 hgr.size⟩
 ·have:=(World.ownsRow.lt h1 g e).1
  omega
 ·rw [Tm.QN hk,← hx]
  exact h2.set (by rw [Tm.Cu (by omega)];exact hn) k x
end Go.Proofs.YtglohanbpjaieaaGreat
namespace Go.Proofs.YtglohanbpjaieaaGreat
open Go.Proofs Go.RowKit Go.Shelf
def Ut (w:World) (a:Option Addr) (len cap:Nat):Prop:=∃ zs:List Int,zs.length = len∧Ints w.heap.size w a zs∧len≤cap∧cap≤maxLen∧(a = none→cap = 0)
theorem Fu {w:World} {a:Option Addr} {L C:Nat} {Z:List Int} (h1:L≤C) (h2:Z.length = C) (h3:∀ x,a = some x→∀ c,c < C→w.cell? (x.add c) = some (.int .i64 (Z.getD c 0))) (h4:a = none→C = 0) :
 Ints w.heap.size w a (Z.take L):=fun j hj=>by
 rw [List.length_take] at hj;cases a with
 | none=>have:=h4 rfl;omega
 | some x =>
  have hc:=h3 x rfl j (by omega);have hsp:=World.cell?_spot (h3 x rfl 0 (by omega));obtain ⟨b,off,spot⟩:=x;have hspot:spot = none:=by simpa [Addr.add] using hsp
  subst hspot;rw [Go.WideShapes.add_plain] at hc;refine ⟨b,off,rfl,by simpa using lt_of_cell hc,?_⟩;rw [hc,List.getD_eq_getElem?_getD];simp [show j < L from by omega]
end Go.Proofs.YtglohanbpjaieaaGreat
namespace Go.Proofs.YtglohanbpjaieaaGreat
open Go.Proofs Go.RowKit Go.Shelf Go.Maps
section
def gD (v:Value):Option (DataW Value × List MemPlace):=some (.held v,[])
def dh (W:World) (b n:Nat) (m:Int→Option Value):Prop :=
 ∃ D:DataW Value,W.ownsMap Tryz.prog 3 gD b n D∧(∀ k:Int,Maps.has D (.int .i64 k) = (m k).isSome)∧∀ (k:Int) (v:Value),m k = some v→∀ z,D.atKey (.int .i64 k) z = .held v
def upd {α:Type} (m:Int→Option α) (s:Int) (v:α):Int→Option α:=fun x=>if x = s then some v else m x
theorem upd_same {α:Type} (m:Int→Option α) (s:Int) (v:α):upd m s v s = some v:=by simp [upd]
theorem gP {α:Type} (m:Int→Option α) {s x:Int} (v:α) (h:x≠s):upd m s v x = m x:=by simp [upd,h]
theorem dh.made (w:World):dh (w.alloc (.map #[] 0)) w.heap.size 0 (fun _=>none) :=
 ⟨_,World.ownsMap_made w _ _ _,fun _=>rfl,fun _ _ h=>by cases h⟩
theorem dh.lt {W:World} {b n:Nat} {m:Int→Option Value} (h:dh W b n m):b < W.heap.size:=by
 obtain ⟨D,hD,_⟩:=h;exact hD.lt
theorem dh.keep {W W':World} {b n:Nat} {m:Int→Option Value} (h:dh W b n m) (hb:W'.heap[b]? = W.heap[b]?):dh W' b n m:=by
 obtain ⟨D,⟨es,clock,hes,r⟩,r2⟩:=h;exact ⟨D,⟨es,clock,hb.trans hes,r⟩,r2⟩
theorem dh.mono {W:World} {b n n':Nat} {m:Int→Option Value} (h:dh W b n m) (hn:n≤n'):dh W b n' m:=by
 obtain ⟨D,hD,r⟩:=h;exact ⟨D,hD.mono hn,r⟩
theorem dh.map {W:World} {b n:Nat} {m:Int→Option Value} (h:dh W b n m):∃ es clock,W.heap[b]? = some (.map es clock):=by
 obtain ⟨D,⟨es,clock,hes,r⟩,r2⟩:=h;exact ⟨es,clock,hes⟩
theorem atKey_none {D:DataW Value} {k:Lit} (hD:IsMap D) (h:Maps.has D k = false) (z:DataW Value):D.atKey k z = z:=by
 cases D with
 | map es =>
  simp only [Maps.has,List.any_eq_false] at h;simp only [DataW.atKey];have:es.find? (fun p=>p.1.sameKey k) = none:=by
   rw [List.find?_eq_none];intro x hx;simpa using h x hx
  simp [this]
 | _=>simp [IsMap] at hD
theorem dh.look {w:World} {b n:Nat} {M:Int→Option Value} (h:dh w b n M) {t e:TypeId} (ht:Tryz.prog.underlying t = some (.map 3 e)) {z:Value} (hz:(zeroValue e).run Tryz.prog w = .ok z w) {key:Int} (hwf:(Lit.int .i64 key).wf = true) :
 (Instr.lookup t (.map (some b)) (.int .i64 key) true).run Tryz.prog w = .ok (.tuple #[(M key).getD z,.bool (M key).isSome]) w∧(Instr.lookup t (.map (some b)) (.int .i64 key) false).run Tryz.prog w = .ok ((M key).getD z) w:=by
 obtain ⟨D,hD,hh,ha⟩:=h;have hkey:=keyOf_int_mk Tryz.underlying3 hwf;have hv:∀ v,gD v = some (D.atKey (.int .i64 key) (.held z),[])→v = (M key).getD z:=fun v hv=>by
  unfold gD at hv;simp only [Option.some.injEq,Prod.mk.injEq,and_true] at hv;cases hm:M key with
  | none =>
   rw [atKey_none (hD.tidy nI).isMap (by rw [hh,hm];rfl)] at hv;simpa using hv
  | some u =>
   rw [ha key u hm] at hv;simpa using hv
 constructor
 ·obtain ⟨v,ps,hrun,hR⟩:=hD.look_ok nI ht hz (R:=gD) (zd:=.held z) (zp:=[]) rfl hkey
  have:ps = []:=by unfold gD at hR;simp at hR;exact hR.2
  subst this;rw [hrun,hv v hR,hh]
 ·obtain ⟨v,ps,hrun,hR⟩:=hD.lookup nI ht hz (R:=gD) (zd:=.held z) (zp:=[]) rfl hkey
  have:ps = []:=by unfold gD at hR;simp at hR;exact hR.2
  subst this;rw [hrun,hv v hR]
theorem dh.set {w:World} {b n:Nat} {M:Int→Option Value} (h:dh w b n M) {t e:TypeId} (ht:Tryz.prog.underlying t = some (.map 3 e)) (hn:n < maxLen) {key:Int} (hwf:(Lit.int .i64 key).wf = true) (v:Value) :
 ∃ w',(Instr.mapUpdate t (.map (some b)) (.int .i64 key) v).run Tryz.prog w = .ok () w'∧dh w' b (n+1) (upd M key v)∧w.grownBy w' (some b):=by
 obtain ⟨D,hD,hh,ha⟩:=h;have hkey:=keyOf_int_mk Tryz.underlying3 hwf;obtain ⟨w',hrun,h1,h2⟩:=hD.update (R:=gD) nI ht hn hkey (val:=v) (d:=.held v) (ps:=[]) rfl;have hk:WideAt.IsKeyLit (.int .i64 key):=trivial;refine ⟨w',hrun,⟨_,h1,fun x=>?_,fun x u hx z=>?_⟩,h2⟩
 ·by_cases e:x = key
  ·subst e;rw [has_put_same (hD.tidy nI).isMap hk,upd_same];rfl
  ·rw [has_put_other (by simp [e]),gP _ _ e,hh]
 ·by_cases e:x = key
  ·subst e;rw [upd_same] at hx;cases hx;exact atKey_put_same (hD.tidy nI).isMap hk _ _
  ·rw [gP _ _ e] at hx;rw [atKey_put_other (by simp [e])];exact ha x u hx z
section
variable (w:World) {ops:Array Oper} {rest:List Oper} {o:Oper} {a:Act} {Q:Exit→Act→World→Prop}
theorem qO (hg:o.guard = none) (m x:Operand) (t:TypeId) (hop:o.op = Op.lookup t m x true) (e:TypeId) (ht:Tryz.prog.underlying t = some (.map 3 e)) {z:Value} (hz:(zeroValue e).run Tryz.prog w = .ok z w) (b n:Nat) (M:Int→Option Value)
 (hm:a.eval m = .map (some b)) (hI:dh w b n M) (key:Int) (hx:a.eval x = .int .i64 key) (hwf:(Lit.int .i64 key).wf = true) (v:Value) (hv:M key = some v)
 (hK:wpList Tryz.prog ops Q rest (a.put o.dst (.tuple #[v,.bool true])) w):wpList Tryz.prog ops Q (o :: rest) a w:=by
 refine wpList_plain hg fun K' hK'=>?_
 have hrun:=(hI.look ht hz hwf).1;rw [hv] at hrun;unfold Oper.wp;simp [execOp,hop,hm,hx,hrun,Result.andThen];exact hK' _ _ hK
theorem zI (hg:o.guard = none) (m x:Operand) (t:TypeId) (hop:o.op = Op.lookup t m x true) (e:TypeId) (ht:Tryz.prog.underlying t = some (.map 3 e)) {z:Value} (hz:(zeroValue e).run Tryz.prog w = .ok z w) (b n:Nat) (M:Int→Option Value)
 (hm:a.eval m = .map (some b)) (hI:dh w b n M) (key:Int) (hx:a.eval x = .int .i64 key) (hwf:(Lit.int .i64 key).wf = true) (hv:M key = none)
 (hK:wpList Tryz.prog ops Q rest (a.put o.dst (.tuple #[z,.bool false])) w):wpList Tryz.prog ops Q (o :: rest) a w:=by
 refine wpList_plain hg fun K' hK'=>?_
 have hrun:=(hI.look ht hz hwf).1;rw [hv] at hrun;unfold Oper.wp;simp [execOp,hop,hm,hx,hrun,Result.andThen];exact hK' _ _ hK
theorem jE (hg:o.guard = none) (m x u:Operand) (t:TypeId) (hop:o.op = Op.mapUpdate t m x u) (e:TypeId) (ht:Tryz.prog.underlying t = some (.map 3 e)) (b n:Nat) (M:Int→Option Value)
 (hm:a.eval m = .map (some b)) (hI:dh w b n M) (hn:n < maxLen) (key:Int) (hx:a.eval x = .int .i64 key) (hwf:(Lit.int .i64 key).wf = true) (v:Value) (hv:a.eval u = v)
 (hK:∀ w',dh w' b (n+1) (upd M key v)→w.grownBy w' (some b)→wpList Tryz.prog ops Q rest (a.put o.dst undef) w'):wpList Tryz.prog ops Q (o :: rest) a w:=by
 refine wpList_plain hg fun K' hK'=>?_
 obtain ⟨w',hrun,h1,h2⟩:=hI.set ht hn hwf v;unfold Oper.wp;simp [execOp,hop,hm,hx,hv,hrun,Result.andThen];exact hK' _ _ (hK w' h1 h2)
end
section
variable {F:Fence} {nF:Nat} (w:World) {ops:Array Oper} {rest:List Oper} {o:Oper} {a:Act} {Q:Exit→Act→World→Prop}
theorem DY (hg:o.guard = none) (m x:Operand) (t:TypeId) (hop:o.op = Op.lookup t m x false) (e:TypeId) (ht:Tryz.prog.underlying t = some (.map 3 e)) {z:Value} (hz:(zeroValue e).run Tryz.prog w = .ok z w) (b n:Nat) (M:Int→Option Value)
 (hm:a.eval m = .map (some b)) (hI:dh w b n M) (key:Int) (hx:a.eval x = .int .i64 key) (hwf:(Lit.int .i64 key).wf = true) (v:Value) (hv:(M key).getD z = v)
 (hK:wpListIn F nF Tryz.prog ops Q rest (a.put o.dst v) w):wpListIn F nF Tryz.prog ops Q (o :: rest) a w:=by
 refine wpListIn_plain hg fun K' hK'=>?_
 have hrun:=(hI.look ht hz hwf).2;rw [hv] at hrun;unfold Oper.wpIn;refine ⟨by simp [Oper.about,hop],?_⟩;rw [Oper.semAt_plain F _ _ (by rw [hop];intro c hc';cases hc')];simp [execOp,hop,hm,hx,hrun,Result.andThen];exact hK' _ _ hK
theorem DZ (hg:o.guard = none) (m x u:Operand) (t:TypeId) (hop:o.op = Op.mapUpdate t m x u) (e:TypeId) (ht:Tryz.prog.underlying t = some (.map 3 e)) (b n:Nat) (M:Int→Option Value)
 (hm:a.eval m = .map (some b)) (hI:dh w b n M) (hn:n < maxLen) (key:Int) (hx:a.eval x = .int .i64 key) (hwf:(Lit.int .i64 key).wf = true) (v:Value) (hv:a.eval u = v)
 (hK:∀ w',dh w' b (n+1) (upd M key v)→w.grownBy w' (some b)→wpListIn F nF Tryz.prog ops Q rest (a.put o.dst undef) w'):wpListIn F nF Tryz.prog ops Q (o :: rest) a w:=by
 refine wpListIn_plain hg fun K' hK'=>?_
 obtain ⟨w',hrun,h1,h2⟩:=hI.set ht hn hwf v;unfold Oper.wpIn;refine ⟨by simp [Oper.about,hop],?_⟩;rw [Oper.semAt_plain F _ _ (by rw [hop];intro c hc';cases hc')];simp [execOp,hop,hm,hx,hv,hrun,Result.andThen];exact hK' _ _ (hK w' h1 h2)
end
end
end Go.Proofs.YtglohanbpjaieaaGreat
namespace Go.Proofs.YtglohanbpjaieaaGreat
open Go.Proofs Go.RowKit Go.Shelf
theorem Tm.kF (l:List Int):∀ (r:List Int) (n:Nat),Tm.run l n≤l.length→Tm.run (l++r) n = Tm.run l n:=by
 induction l with
 | nil=>intro r n h;rw [Tm.jJ] at h;have:n = 0:=by simpa using h
        subst this;simp [Tm.cZ]
 | cons s l ih =>
  intro r n h;cases n with
  | zero=>simp [Tm.cZ]
  | succ n =>
   rw [List.cons_append,Tm.bU,Tm.bU,ih];rw [Tm.bU,List.length_cons] at h;omega
theorem Tm.JH (l:List Int):∀ (n:Nat),Tm.run l n≤l.length→Tm.run (l.take (Tm.run l n)) n = Tm.run l n:=by
 induction l with
 | nil=>intro n h;simp [Tm.jJ]
 | cons s l ih =>
  intro n h;cases n with
  | zero=>simp [Tm.cZ]
  | succ n =>
   rw [Tm.bU] at h ⊢;rw [List.length_cons] at h;rw [show 1+Tm.run l (n+Tm.room s) = Tm.run l (n+Tm.room s)+1 from by omega,List.take_succ_cons,Tm.bU,ih _ (by omega)];omega
theorem Tm.Uu (l:List Int):∀ (r:List Int) (n:Nat),l.length < Tm.run (l++r) n→∃ m,∀ x,Tm.run (l++x) n = l.length+Tm.run x (m+1):=by
 induction l with
 | nil =>
  intro r n h;cases n with
  | zero=>simp [Tm.cZ] at h
  | succ n=>exact ⟨n,fun x=>by simp⟩
 | cons s l ih =>
  intro r n h;cases n with
  | zero=>simp [Tm.cZ] at h
  | succ n =>
   rw [List.cons_append,Tm.bU,List.length_cons] at h;obtain ⟨m,hm⟩:=ih r (n+Tm.room s) (by omega);refine ⟨m,fun x=>?_⟩;rw [List.cons_append,Tm.bU,hm,List.length_cons];omega
theorem Tm.split (zs:List Int) (k:Nat):zs = zs.take k++(Tm.part zs k++zs.drop (Tm.ai zs k)):=by
 have hg:=Tm.dw zs k;have hd:zs.drop (Tm.ai zs k) = (zs.drop k).drop (Tm.ai zs k - k):=by rw [List.drop_drop];congr 1;omega
 rw [hd,Tm.part,List.take_append_drop,List.take_append_drop]
theorem Tm.KN {zs:List Int} (he:Tm.err zs = 0) {k:Nat} (hk:k < zs.length):Tm.run (Tm.part zs k) 1 = (Tm.part zs k).length:=by
 rw [Tm.dF he hk];have h1:=Tm.fV he hk;have h2:Tm.ai zs k - k = Tm.run (zs.drop k) 1:=by unfold Tm.ai;omega
 unfold Tm.part;rw [h2,Tm.JH];rw [List.length_drop];omega
theorem Tm.Uv {zs:List Int} (he:Tm.err zs = 0) (k:Nat):(Tm.part zs k).all Tm.known = true:=by
 have h:=Tm.dH he;rw [List.all_eq_true] at h ⊢;intro x hx;exact h x (List.mem_of_mem_drop (List.mem_of_mem_take hx))
theorem Tm.dC {zs:List Int} (he:Tm.err zs = 0) {k:Nat} (hk:k < zs.length):Tm.err (Tm.part zs k) = 0:=by
 refine Tm.oJ ?_ (Tm.Uv he k) (Tm.KN he hk);rw [Tm.dF he hk];have:=Tm.fV he hk
 have:=Tm.aI he
 omega
theorem Tm.put_eq (zs us:List Int) (k:Nat):Tm.put zs k us = zs.take k++(us++zs.drop (Tm.ai zs k)):=by unfold Tm.put;rw [List.append_assoc]
theorem Tm.WE {zs us:List Int} (he:Tm.err zs = 0) (hu:Tm.run us 1 = us.length) {k:Nat} (hk:k < zs.length):Tm.run (Tm.put zs k us) 1 = (Tm.put zs k us).length:=by
 have hs:=Tm.split zs k;have hr:=Tm.eT he;have hp:=Tm.KN he hk;have htl:(zs.take k).length = k:=by rw [List.length_take];omega
 generalize hP:Tm.part zs k = P at *;rw [Tm.put_eq];generalize hA:zs.take k = A at *;generalize hB:zs.drop (Tm.ai zs k) = B at *;clear hP hA hB;rw [hs] at hr;obtain ⟨m,hm⟩:=Tm.Uu A (P++B) 1 (by rw [hr];rw [← hs];omega);rw [hm,show m+1 = 1+m from by omega,Tm.lV,Tm.kF P B 1 (by omega),hp,List.drop_left] at hr;rw [hm,show m+1 = 1+m from by omega,Tm.lV,Tm.kF us B 1 (by omega),hu,List.drop_left];simp only [List.length_append] at hr ⊢;omega
theorem Tm.WG {zs us:List Int} (he:Tm.err zs = 0) (hu:us.all Tm.known = true) (k:Nat):(Tm.put zs k us).all Tm.known = true:=by
 have h:=Tm.dH he;rw [List.all_eq_true] at h hu ⊢;intro x hx;unfold Tm.put at hx;rw [List.mem_append,List.mem_append] at hx;rcases hx with (hx | hx) | hx
 ·exact h x (List.mem_of_mem_take hx)
 ·exact hu x hx
 ·exact h x (List.mem_of_mem_drop hx)
theorem Tm.OY {zs us:List Int} (he:Tm.err zs = 0) (hu:Tm.err us = 0) {k:Nat} (hk:k < zs.length) (hl:(Tm.put zs k us).length≤30):Tm.err (Tm.put zs k us) = 0 :=
 Tm.oJ hl (Tm.WG he (Tm.dH hu) k) (Tm.WE he (Tm.eT hu) hk)
end Go.Proofs.YtglohanbpjaieaaGreat
namespace Go.Proofs.YtglohanbpjaieaaGreat
open Go.Proofs Go.RowKit Go.Shelf Go.Maps
abbrev nT:=Int→Option (List Int)
def Tm.fitGo (t:List Int):List Int→Nat→nT→Option nT
 | [],_,m=>some m
 | s :: p,k,m=>if s < 0 then (if (m s).isSome = true∧m s≠some (Tm.part t k) then none else Tm.fitGo t p (Tm.ai t k) (upd m s (Tm.part t k))) else if t[k]?.getD 0 = s then Tm.fitGo t p (k+1) m else none
def Tm.fit (p t:List Int):Option nT:=Tm.fitGo t p 0 (fun _=>none)
theorem Tm.kC (t:List Int) (k:Nat) (m:nT):Tm.fitGo t [] k m = some m:=rfl
theorem Tm.QP {t p:List Int} {i k:Nat} {m:nT} (hi:i < p.length) (hs:p[i]?.getD 0 < 0) (hm:m (p[i]?.getD 0) = none):Tm.fitGo t (p.drop i) k m = Tm.fitGo t (p.drop (i+1)) (Tm.ai t k) (upd m (p[i]?.getD 0) (Tm.part t k)):=by
 rw [List.drop_eq_getElem_cons hi,Tm.fitGo];simp only [hi,List.getElem?_eq_getElem,Option.getD_some] at hs hm ⊢;rw [if_pos hs,hm,if_neg (by simp)]
theorem Tm.QQ {t p:List Int} {i k:Nat} {m:nT} (hi:i < p.length) (hs:p[i]?.getD 0 < 0) (hm:m (p[i]?.getD 0) = some (Tm.part t k)):Tm.fitGo t (p.drop i) k m = Tm.fitGo t (p.drop (i+1)) (Tm.ai t k) (upd m (p[i]?.getD 0) (Tm.part t k)):=by
 rw [List.drop_eq_getElem_cons hi,Tm.fitGo];simp only [hi,List.getElem?_eq_getElem,Option.getD_some] at hs hm ⊢;rw [if_pos hs,if_neg (by simp [hm])]
theorem Tm.KO {t p:List Int} {i k:Nat} {m:nT} {zs:List Int} (hi:i < p.length) (hs:p[i]?.getD 0 < 0) (hm:m (p[i]?.getD 0) = some zs) (hne:zs≠Tm.part t k):Tm.fitGo t (p.drop i) k m = none:=by
 rw [List.drop_eq_getElem_cons hi,Tm.fitGo];simp only [hi,List.getElem?_eq_getElem,Option.getD_some] at hs hm ⊢;rw [if_pos hs,if_pos (by simp [hm,hne])]
theorem Tm.QR {t p:List Int} {i k:Nat} {m:nT} (hi:i < p.length) (hs:¬ p[i]?.getD 0 < 0) (he:t[k]?.getD 0 = p[i]?.getD 0):Tm.fitGo t (p.drop i) k m = Tm.fitGo t (p.drop (i+1)) (k+1) m:=by
 rw [List.drop_eq_getElem_cons hi,Tm.fitGo];simp only [hi,List.getElem?_eq_getElem,Option.getD_some] at hs he ⊢;rw [if_neg hs,if_pos he]
theorem Tm.KP {t p:List Int} {i k:Nat} {m:nT} (hi:i < p.length) (hs:¬ p[i]?.getD 0 < 0) (he:t[k]?.getD 0≠p[i]?.getD 0):Tm.fitGo t (p.drop i) k m = none:=by
 rw [List.drop_eq_getElem_cons hi,Tm.fitGo];simp only [hi,List.getElem?_eq_getElem,Option.getD_some] at hs he ⊢;rw [if_neg hs,if_neg he]
def fo (p t:List Int) (i k:Nat):Prop:=∃ o,Tm.run (p.drop i) o = p.length - i∧Tm.run (t.drop k) o = t.length - k∧i≤p.length∧k≤t.length
theorem fo.start {p t:List Int} (hp:Tm.err p = 0) (ht:Tm.err t = 0):fo p t 0 0:=⟨1,by simpa using Tm.eT hp,by simpa using Tm.eT ht,by omega,by omega⟩
theorem fo.pos {p t:List Int} {i k:Nat} (h:fo p t i k) (hi:i < p.length):k < t.length:=by
 obtain ⟨o,h1,h2,h3,h4⟩:=h;have ho:o≠0:=by rintro rfl;rw [Tm.cZ] at h1;omega
 have:=Tm.GL (t.drop k) o
 omega
theorem Tm.zJ {s:Int} (h:s < 0):Tm.room s = 0:=by unfold Tm.room;rw [if_neg (by omega),if_neg (by omega)]
theorem fo.var {p t:List Int} {i k:Nat} (h:fo p t i k) (hi:i < p.length) (hs:p[i]?.getD 0 < 0):fo p t (i+1) (Tm.ai t k):=by
 have hk:=h.pos hi;obtain ⟨o,h1,h2,h3,h4⟩:=h;have ho:o≠0:=by rintro rfl;rw [Tm.cZ] at h1;omega
 obtain ⟨o,rfl⟩:∃ o',o = o'+1:=⟨o - 1,by omega⟩;rw [Tm.yI hi,Tm.zJ hs] at h1;rw [Nat.add_comm o 1,Tm.lV] at h2;have hle:Tm.ai t k≤t.length:=by
  rw [show Tm.ai t k = k+Tm.run (t.drop k) 1 from rfl];omega
 refine ⟨o,by simpa using (by omega:Tm.run (p.drop (i+1)) (o+0) = p.length - (i+1)),?_,by omega,hle⟩;rw [List.drop_drop] at h2;rw [show Tm.ai t k = k+Tm.run (t.drop k) 1 from rfl] at hle ⊢;omega
theorem fo.sym {p t:List Int} {i k:Nat} (h:fo p t i k) (hi:i < p.length) (he:t[k]?.getD 0 = p[i]?.getD 0):fo p t (i+1) (k+1):=by
 have hk:=h.pos hi;obtain ⟨o,h1,h2,h3,h4⟩:=h;have ho:o≠0:=by rintro rfl;rw [Tm.cZ] at h1;omega
 obtain ⟨o,rfl⟩:∃ o',o = o'+1:=⟨o - 1,by omega⟩;rw [Tm.yI hi] at h1;rw [Tm.yI hk,he] at h2;exact ⟨o+Tm.room (p[i]?.getD 0),by omega,by omega,by omega,by omega⟩
theorem fo.KQ {p t:List Int} {i k:Nat} (h:fo p t i k) (hi:i < p.length):Tm.ai t k≤t.length:=by
 obtain ⟨o,h1,h2,h3,h4⟩:=h;have ho:o≠0:=by rintro rfl;rw [Tm.cZ] at h1;omega
 obtain ⟨o,rfl⟩:∃ o',o = o'+1:=⟨o - 1,by omega⟩;rw [Nat.add_comm o 1,Tm.lV] at h2;rw [show Tm.ai t k = k+Tm.run (t.drop k) 1 from rfl];omega
def Reads (n:Nat) (W:World) (v:Value) (zs:List Int):Prop:=∃ b off c,v = .slice (some ⟨b,off,none⟩) zs.length c∧Ints n W (some ⟨b,off,none⟩) zs∧zs.length≤c∧c≤maxLen∧zs.length≤30
theorem Reads.below {n:Nat} {W W':World} {v:Value} {zs:List Int} (h:Reads n W v zs) (hB:Below n W W'):Reads n W' v zs:=by
 obtain ⟨b,off,c,rfl,hI,h1⟩:=h;exact ⟨b,off,c,rfl,hI.below hB,h1⟩
def Gu (n:Nat) (W:World) (bm N:Nat) (m:nT):Prop:=∃ M,dh W bm N M∧(∀ s,m s = none→M s = none)∧∀ s zs,m s = some zs→∃ v,M s = some v∧Reads n W v zs
theorem Gu.upd {n:Nat} {W W':World} {bm N:Nat} {m:nT} {s:Int} {v:Value} {zs:List Int} {M:Int→Option Value} (h1:∀ s,m s = none→M s = none) (h2:∀ s zs,m s = some zs→∃ v,M s = some v∧Reads n W v zs)
 (h3:dh W' bm N (upd M s v)) (hB:Below n W W') (hv:Reads n W v zs):Gu n W' bm N (upd m s zs):=by
 refine ⟨_,h3,fun x hx=>?_,fun x ys hx=>?_⟩
 ·by_cases e:x = s
  ·subst e;rw [upd_same] at hx;cases hx
  ·rw [gP _ _ e] at hx ⊢;exact h1 x hx
 ·by_cases e:x = s
  ·subst e;rw [upd_same] at hx;cases hx;exact ⟨v,upd_same _ _ _,hv.below hB⟩
  ·rw [gP _ _ e] at hx
   obtain ⟨u,hu,hr⟩:=h2 x ys hx;exact ⟨u,by rw [gP _ _ e];exact hu,hr.below hB⟩
def Tm.gp (m:nT) (k:Nat):List (List Int):=(List.range 8).map fun i:Nat=>if i < k then (m (-1 - (i:Int))).getD [-1 - (i:Int)] else [-1 - (i:Int)]
theorem Tm.ll (m:nT) (k:Nat):(Tm.gp m k).length = 8:=by simp [Tm.gp]
theorem Tm.Gv (m:nT):Tm.gp m 0 = Tm.gQ 8:=by simp [Tm.gp,Tm.gQ]
theorem Tm.Gw {m:nT} {k:Nat} (h:m (-1 - (k:Int)) = none):Tm.gp m (k+1) = Tm.gp m k:=by
 unfold Tm.gp;refine List.map_congr_left fun i _=>?_
 by_cases e:i = k
 ·subst e;rw [if_pos (by omega),if_neg (by omega),h];rfl
 ·by_cases hl:i < k
  ·rw [if_pos (by omega),if_pos hl]
  ·rw [if_neg (by omega),if_neg hl]
theorem Tm.Gx {m:nT} {k:Nat} {zs:List Int} (h:m (-1 - (k:Int)) = some zs):Tm.gp m (k+1) = (Tm.gp m k).set k zs:=by
 refine List.ext_getElem (by simp [Tm.gp]) fun i h1 h2=>?_
 simp only [Tm.gp,List.length_map,List.length_range] at h1;by_cases e:i = k
 ·subst e
  rw [List.getElem_set_self];simp [Tm.gp,h]
 ·rw [List.getElem_set_ne (by omega)]
  simp only [Tm.gp,List.getElem_map,List.getElem_range];by_cases hl:i < k
  ·rw [if_pos (by omega),if_pos hl]
  ·rw [if_neg (by omega),if_neg hl]
def Tm.cK (p t:List Int):Int:=Tm.firstErr [p,t]
def Tm.rM (p t:List Int):Bool:=if Tm.cK p t = 0 then (Tm.fit p t).isSome else false
def Tm.fitOut:Option nT→List (List Int)
 | some m=>Tm.gp m 8
 | none=>[]
def Tm.lJ (p t:List Int):List (List Int):=if Tm.cK p t = 0 then Tm.fitOut (Tm.fit p t) else []
theorem Tm.ou {p t:List Int} (h:Tm.cK p t = 0):Tm.err p = 0∧Tm.err t = 0:=by
 have:=Tm.jS h
 exact ⟨by simpa using this 0 (by simp),by simpa using this 1 (by simp)⟩
theorem Tm.ru {p t:List Int} (h1:Tm.err p = 0) (h2:Tm.err t = 0):Tm.cK p t = 0:=by simp [Tm.cK,Tm.firstErr,h1,h2]
theorem Tm.WH {p t:List Int} (h:Tm.cK p t≠0):Tm.rM p t = false∧Tm.lJ p t = []:=by
 constructor
 ·unfold Tm.rM;rw [if_neg h]
 ·unfold Tm.lJ;rw [if_neg h]
theorem Tm.Zt {p t:List Int} (h:Tm.cK p t = 0) (hf:Tm.fit p t = none):Tm.rM p t = false∧Tm.lJ p t = []:=by
 constructor
 ·unfold Tm.rM;rw [if_pos h,hf];rfl
 ·unfold Tm.lJ;rw [if_pos h,hf];rfl
theorem Tm.OQ {p t:List Int} {m:nT} (h:Tm.cK p t = 0) (hf:Tm.fit p t = some m):Tm.rM p t = true∧Tm.lJ p t = Tm.gp m 8:=by
 constructor
 ·unfold Tm.rM;rw [if_pos h,hf];rfl
 ·unfold Tm.lJ;rw [if_pos h,hf];rfl
theorem BZ (xs ys:List Int) (a b:Option Addr) (ca cb:Nat) (w:World) (hX:Ints w.heap.size w a xs) (hY:Ints w.heap.size w b ys) (hm:xs.length≤maxLen) :
 Calls Tryz.prog 31 #[.slice a xs.length ca,.slice b ys.length cb] w fun e w'=>e = .returned (.bool (dK xs ys))∧Below w.heap.size w w':=by
 unfold maxLen at hm;by_cases hl:xs.length = ys.length
 ·have hne:((xs.length:Int) != (ys.length:Int)) = false:=by simp [hl]
  have Hl:Hid (xs.length = ys.length):=hl;clear hl;go_enter Tryz.func31,Tryz.ntmps31;go_wp2;go_loopw [13] (fun i wr=>∃ k:Nat,k≤xs.length∧i = .int .i64 (k:Int)∧Hid (xs.take k = ys.take k)∧Below w.heap.size w wr) (fun i _=>xs.length - (intOf i).toNat)
  case atStart=>exact ⟨0,Nat.zero_le _,rfl,by simp [Hid],Below.refl _ _⟩
  case round =>
   obtain ⟨k,hk,rfl,hsame,hB⟩:=hrel;by_cases hlt:k < xs.length
   ·have hlt':(k:Int) < (xs.length:Int):=by omega
    have Ll:k < ys.length:=by have:=Hl.out;omega
    have X0:(k:Int) < (ys.length:Int):=by omega
    obtain ⟨b1,X3,rfl,hb1,hc1⟩:=(hX.below hB).at (by omega);obtain ⟨b2,RG,rfl,hb2,hc2⟩:=(hY.below hB).at (by omega);have hx:=hc1 k hlt;have hy:=hc2 k Ll;have hst:=show Hid _ from @Bz xs ys k hlt Ll hsame.out
    have hno:=show Hid _ from @Dx xs ys k
    clear hc1 hc2 hX hY Ll;generalize xs[k]?.getD 0 = s at *;generalize ys[k]?.getD 0 = u at *;by_cases he:s = u
    ·have hn:(s != u) = false:=by simp [he]
     have He:Hid (s = u):=he;clear he hno;go_wp2;go_quiet (fail)
     go_wp2;go_roundw
     case rel=>exact ⟨k+1,by omega,by go_num,hst.out He.out,below_drewN hB _⟩
     case measure=>simp [intOf];omega
    ·have hn:(s != u) = true:=by simp [he]
     have hf:=show Hid _ from hno.out he
     clear he hno hst;go_wp2;go_quiet (fail)
     go_wp2;go_ret;exact ⟨by rw [hf.out];rfl,below_drewN hB _⟩
   ·obtain rfl:k = xs.length:=by omega
    have hy:=show Hid _ from Dz hsame.out Hl.out
    clear hX hY;go_wp2;go_ret;exact ⟨by rw [hy.out];rfl,hB⟩
 ·have hne:((xs.length:Int) != (ys.length:Int)) = true:=by simp;omega
  rw [Dy hl];clear hl hX hY;go_enter Tryz.func31,Tryz.ntmps31;go_wp2;go_ret;exact ⟨rfl,Below.refl _ _⟩
theorem qP (w:World):(zeroValue 35).run Tryz.prog w = .ok (.slice none 0 0) w:=by kernel_rfl
def MO (w w':World) (e:Ending):Option nT→Prop
 | none=>e = .returned (.tuple #[.map none,.bool false])
 | some m=>∃ bm N,e = .returned (.tuple #[.map (some bm),.bool true])∧w.heap.size≤bm∧Gu w.heap.size w' bm N m
theorem Pq (p t:List Int) (ap at':Option Addr) (cp ct:Nat) (w:World) (hp:Tm.err p = 0) (ht:Tm.err t = 0) (hP:Ints w.heap.size w ap p) (hT:Ints w.heap.size w at' t) (hct:t.length≤ct) (agS:ct≤maxLen) :
 Calls Tryz.prog 72 #[.slice ap p.length cp,.slice at' t.length ct] w fun e w'=>Below w.heap.size w w'∧MO w w' e (Tm.fit p t):=by
 have X6:=Tm.aI hp;have agT:=Tm.aI ht;have h8:=Tm.lH hp;have h6:=fun k (hk:k < p.length)=>Tm.gK (Tm.lq (Tm.dH hp) hk)
 have hAg:=hid (fo.start hp ht);obtain ⟨b,off,rfl,hb,hc⟩:=hT.at (Tm.bM ht);obtain ⟨b2,RG,rfl,hb2,hc2⟩:=hP.at (Tm.bM hp);have hmm:=@run_makeMap Tryz.prog;have amb:ct≤9223372036854775807:=agS;have HT:=hid hT;have Hc:=hid hc;have Hc2:=hid hc2;have H8:=hid h8;have H6:=hid h6;have hl1:(p.length:Int)≤30:=by omega
 have hl2:(t.length:Int)≤30:=by omega
 clear hT hP hc hc2 h8 h6 hp ht;go_enter Tryz.func72,Tryz.ntmps72;go_wp2;go_loopw [7,16] (fun q i wr=>∃ (j k:Nat) (m:nT),j≤p.length∧k≤t.length∧i = .int .i64 (j:Int)∧q = .int .i64 (k:Int)∧Hid (Tm.fit p t = Tm.fitGo t (p.drop j) k m)∧Hid (fo p t j k)∧Below w.heap.size w wr∧Hid (Gu w.heap.size wr w.heap.size j m)) (fun _ i _=>p.length - (intOf i).toNat)
 case atStart=>exact ⟨0,0,fun _=>none,Nat.zero_le _,Nat.zero_le _,rfl,rfl,by simp [Hid,Tm.fit],hAg,(Below.refl _ _).alloc (Nat.le_refl _) _,⟨_,dh.made w,fun _ _=>rfl,fun _ _ h=>by cases h⟩⟩
 case round =>
  obtain ⟨j,k,m,hj,hk,rfl,rfl,hfit,hag,hB,hF⟩:=hrel;by_cases hlt:j < p.length
  ·have hlt':(j:Int) < (p.length:Int):=by omega
   have hkt:=hag.out.pos hlt;have amc:(k:Int) < (t.length:Int):=by omega
   have hcj:=(hB.cell (p:=⟨b2,RG+j,none⟩) hb2).trans (Hc2.out j hlt);have hck:=(hB.cell (p:=⟨b,off+k,none⟩) hb).trans (Hc.out k hkt);by_cases hs:p[j]?.getD 0 < 0
   ·have hE:=qV t agT (some ⟨b,off,none⟩) ct k (by omega) wr ((HT.out.below hB).mono hB.size)
    have hle:=hag.out.KQ hlt;have hgt:=Tm.dw t k;have QS:=hid (hag.out.var hlt hs);have Hpl:Hid ((Tm.part t k).length = Tm.ai t k - k):=by show _ = _;simp only [Tm.part,List.length_take,List.length_drop];omega
    have HIs:=hid (HT.out.sub k (Tm.ai t k - k));have hnew:=hid (fun h=>hfit.out.trans (Tm.QP (t:=t) (k:=k) (m:=m) hlt hs h));have hold:=hid (fun h=>hfit.out.trans (Tm.QQ (t:=t) (k:=k) (m:=m) hlt hs h));have hcl:=hid (fun zs h1 h2=>hfit.out.trans (Tm.KO (t:=t) (k:=k) (m:=m) (zs:=zs) hlt hs h1 h2));have hwf:=hid (WC (s:=p[j]?.getD 0) (by have:=H8.out j hlt;omega) (by have:=H6.out j hlt;omega));have ac5:Hid (Ints w.heap.size w (some ⟨b,off+k,none⟩) (Tm.part t k)):=HIs;clear hck HIs hfit hag;generalize p[j]?.getD 0 = s at *;generalize Tm.part t k = pt at *;generalize Tm.ai t k = q at *;have h1:(k:Int)≤(q:Int):=by omega
    have h2:(q:Int)≤(ct:Int):=by omega
    have h3:¬ ct - k = 0:=by omega
    have Hq:Hid (q = k+pt.length):=by have:=Hpl.out;show _ = _;omega
    obtain ⟨M,hM,hn,hso⟩:=hF.out;have hrd:Hid (Reads w.heap.size w (.slice (some ⟨b,off+k,none⟩) (q - k) (ct - k)) pt):=⟨b,off+k,ct - k,by rw [Hpl.out],ac5.out,by have:=Hpl.out;omega,by omega,by have:=Hpl.out;omega⟩;clear hF;cases hms:m s with
    | none =>
     have hMs:=hid (hn s hms);have hst:=hid (hnew.out hms);have Hn:=hid hn;have Hso:=hid hso;have HM:=hid hM;clear hnew hold hcl hms hn hso hM;go_wp2_with (first
      | (go_at_call 69;refine hE.mono ?_;clear hE;rintro e w1 ⟨rfl,hB1⟩;have hM1:=hid (HM.out.keep (hB1.block _ HM.out.lt));have hB2:=hB.trans (hB1.mono hB.size))
      | (at_lookup;go_loud (refine zI _ rfl _ _ 102 rfl 35 Tryz.underlying102 (qP _) w.heap.size j M rfl hM1.out s rfl hwf.out hMs.out ?_))
      | (at_mapUpdate;go_loud (refine jE _ rfl _ _ _ 102 rfl 35 Tryz.underlying102 w.heap.size j M rfl hM1.out (by unfold maxLen;omega) s rfl hwf.out _ rfl ?_);intro w2 hM2 hg2))
     have hB3:Below w.heap.size w w2:=hB2.grown hg2 hB2.size (fun x e=>by simp at e;omega);go_roundw
     case rel=>exact ⟨j+1,q,_,by omega,by omega,by go_num,rfl,hst,QS,hB3,Gu.upd Hn.out (fun x zs h=>by obtain ⟨v,h1,h2⟩:=Hso.out x zs h;exact ⟨v,h1,h2.below (hB1.mono hB.size)⟩) hM2 (Below.grown (Below.refl _ _) hg2 hB2.size (fun x e=>by simp at e;omega)) (hrd.out.below hB2)⟩
     case measure=>simp [intOf];omega
    | some zs =>
     obtain ⟨v,hMs,b3,Zu,c3,rfl,yC,hc3,hc4,_⟩:=hso s zs hms;have hEq:∀ W,Below wr.heap.size wr W→Calls Tryz.prog 31 #[.slice (some ⟨b3,Zu,none⟩) zs.length c3,.slice (some ⟨b,off+k,none⟩) (q - k) (ct - k)] W fun e w'=>e = .returned (.bool (dK zs pt))∧Below W.heap.size W w':=fun W hW=>by
      rw [← Hpl.out];exact BZ zs pt _ _ c3 (ct - k) W (((yC.below (hW.mono hB.size)).mono (by have:=hW.size;have:=hB.size;omega))) (((ac5.out.below hB).below (hW.mono hB.size)).mono (by have:=hW.size;have:=hB.size;omega)) (by omega)
     have HEq:=hid hEq;have HMs:=hid hMs;have Hn:=hid hn;have Hso:=hid hso;have HM:=hid hM;clear hEq hMs hn hso hM yC;by_cases he:zs = pt
     ·subst he
      have hsb:dK zs zs = true:=by simp [dK]
      have hst:=hid (hold.out hms);clear hnew hold hcl hms;go_wp2_with (first
       | (go_at_call 69;refine hE.mono ?_;clear hE;rintro e w1 ⟨rfl,hB1⟩;have hM1:=hid (HM.out.keep (hB1.block _ HM.out.lt));have hB2:=hB.trans (hB1.mono hB.size))
       | (at_lookup;go_loud (refine qO _ rfl _ _ 102 rfl 35 Tryz.underlying102 (qP _) w.heap.size j M rfl hM1.out s rfl hwf.out _ HMs.out ?_))
       | (go_at_call 31;refine (HEq.out _ hB1).mono ?_;rw [hsb];rintro e w3 ⟨rfl,hB3⟩;have Zg:=hid (hM1.out.keep (hB3.block _ hM1.out.lt));have hB4:=hB2.trans (hB3.mono hB2.size))
       | (at_mapUpdate;go_loud (refine jE _ rfl _ _ _ 102 rfl 35 Tryz.underlying102 w.heap.size j M rfl Zg.out (by unfold maxLen;omega) s rfl hwf.out _ rfl ?_);intro w2 hM2 hg2))
      have gq:Below w.heap.size w w2:=hB4.grown hg2 hB4.size (fun x e=>by simp at e;omega);go_roundw
      case rel=>exact ⟨j+1,q,_,by omega,by omega,by go_num,rfl,hst,QS,gq,Gu.upd Hn.out (fun x zs h=>by obtain ⟨v,h1,h2⟩:=Hso.out x zs h;exact ⟨v,h1,(h2.below (hB1.mono hB.size)).below (hB3.mono hB2.size)⟩) hM2 (Below.grown (Below.refl _ _) hg2 hB4.size (fun x e=>by simp at e;omega)) (hrd.out.below hB4)⟩
      case measure=>simp [intOf];omega
     ·have hsb:dK zs pt = false:=by simp [dK,he]
      have hst:=hid (hcl.out zs hms he);clear hnew hold hcl hms he;go_wp2_with (first
       | (go_at_call 69;refine hE.mono ?_;clear hE;rintro e w1 ⟨rfl,hB1⟩;have hM1:=hid (HM.out.keep (hB1.block _ HM.out.lt));have hB2:=hB.trans (hB1.mono hB.size))
       | (at_lookup;go_loud (refine qO _ rfl _ _ 102 rfl 35 Tryz.underlying102 (qP _) w.heap.size j M rfl hM1.out s rfl hwf.out _ HMs.out ?_))
       | (go_at_call 31;refine (HEq.out _ hB1).mono ?_;rw [hsb];rintro e w3 ⟨rfl,hB3⟩;have Zg:=hid (hM1.out.keep (hB3.block _ hM1.out.lt));have hB4:=hB2.trans (hB3.mono hB2.size)))
      go_ret2
      exact ⟨hB4,by rw [hst.out];rfl⟩
   ·have hsy:=hid (fun h=>hfit.out.trans (Tm.QR (t:=t) (k:=k) (m:=m) hlt hs h))
    have hot:=hid (fun h=>hfit.out.trans (Tm.KP (t:=t) (k:=k) (m:=m) hlt hs h));have QS:=hid (fun h=>hag.out.sym hlt h);clear hfit hag;generalize p[j]?.getD 0 = s at *;generalize t[k]?.getD 0 = u at *;by_cases he:u = s
    ·have hn:(u != s) = false:=by simp [he]
     have hst:=hid (hsy.out he);have agV:=hid (QS.out he);clear hsy hot he QS;go_wp2;go_roundw
     case rel=>exact ⟨j+1,k+1,m,by omega,by omega,by go_num,by go_num,hst,agV,hB,by obtain ⟨M,h1,h2⟩:=hF.out;exact ⟨M,h1.mono (by omega),h2⟩⟩
     case measure=>simp [intOf];omega
    ·have hn:(u != s) = true:=by simp [he]
     have hst:=hid (hot.out he);clear hsy hot he QS;go_wp2;go_ret2
     exact ⟨hB,by rw [hst.out];rfl⟩
  ·obtain rfl:j = p.length:=by omega
   go_wp2;go_ret2
   exact ⟨hB,by rw [hfit.out,List.drop_length,Tm.kC];exact ⟨_,_,rfl,Nat.le_refl _,hF.out⟩⟩
theorem EU (ss:List (List Int)) (hl:ss.length≤1000) (a:Option Addr) (cap:Nat) (w:World) (hS:gu w.heap.size w a ss) :
 Calls Tryz.prog 71 #[.slice a ss.length cap] w fun e w'=>e = .returned (.int .i64 (Tm.firstErr ss))∧Below w.heap.size w w':=by
 have HS:=hid hS;have hl':(ss.length:Int)≤1000:=by omega
 clear hS;go_enter Tryz.func71,Tryz.ntmps71;go_wp2;go_loopw [8] (fun i wr=>∃ k:Nat,k≤ss.length∧i = .int .i64 (k:Int)∧Hid (Tm.firstErr ss = Tm.firstErr (ss.drop k))∧Below w.heap.size w wr) (fun i _=>ss.length - (intOf i).toNat)
 case atStart=>exact ⟨0,Nat.zero_le _,rfl,rfl,Below.refl _ _⟩
 case round =>
  obtain ⟨k,hk,rfl,hf,hB⟩:=hrel;by_cases hlt:k < ss.length
  ·have hlt':(k:Int) < (ss.length:Int):=by omega
   obtain ⟨b,off,rfl,hb,hc⟩:=HS.out.at (by omega);obtain ⟨aj,cj,hcj,hIj,_⟩:=hc k hlt;have afl:=(hB.cell (p:=⟨b,off+k,none⟩) hb).trans hcj;have hC:=dZ (ss[k]?.getD []) aj cj wr ((hIj.below hB).mono hB.size);have hst:=hid (Tm.rQ (ss:=ss) (k:=k) hlt);have hsp:=hid (Tm.rT (ss:=ss) (k:=k) hlt);clear hcj hIj hc;generalize ss[k]?.getD [] = t at *;by_cases he:Tm.err t = 0
   ·have hst':=hid (hf.out.trans (hst.out he))
    rw [he] at hC;clear hst hsp he hf;go_wp2_with (go_at_call 49;refine hC.mono ?_;clear hC;rintro e w1 ⟨rfl,hB1⟩)
    go_roundw
    case rel=>exact ⟨k+1,by omega,by go_num,hst'.out,hB.trans (hB1.mono hB.size)⟩
    case measure=>simp [intOf];omega
   ·have Yy:=hid (hf.out.trans (hsp.out he))
    have hne:(Tm.err t != 0) = true:=by simp [he]
    clear hst hsp he hf;generalize Tm.err t = q at *;go_wp2_with (go_at_call 49;refine hC.mono ?_;clear hC;rintro e w1 ⟨rfl,hB1⟩)
    go_ret;exact ⟨by rw [Yy.out];rfl,hB.trans (hB1.mono hB.size)⟩
  ·obtain rfl:k = ss.length:=by omega
   have h0:Hid (Tm.firstErr ss = 0):=by
    show _ = _;rw [hf.out,List.drop_length];rfl
   clear hf;go_wp2;go_ret;exact ⟨by rw [h0.out];rfl,hB⟩
theorem Uw (W:World) (p t:List Int) (ap at':Option Addr) (cp ct n:Nat) (hn:n = W.heap.size+1) (hP:Ints W.heap.size W ap p) (hT:Ints W.heap.size W at' t) (h1:p.length≤cp∧cp≤maxLen∧(ap = none→cp = 0)) (h2:t.length≤ct∧ct≤maxLen∧(at' = none→ct = 0)) :
 gu n (W.alloc (.cells #[.slice ap p.length cp,.slice at' t.length ct] 35)) (some ⟨W.heap.size,0,none⟩) [p,t]:=by
 have hB:Below W.heap.size W (W.alloc (.cells #[.slice ap p.length cp,.slice at' t.length ct] 35)):=(Below.refl _ _).alloc (Nat.le_refl _) _;have hnew:=World.alloc_heap_new W (.cells #[.slice ap p.length cp,.slice at' t.length ct] 35);intro j hj;simp only [List.length_cons,List.length_nil] at hj;match j,hj with
 | 0,_=>exact ⟨W.heap.size,0,ap,cp,rfl,by omega,(aM hnew 0).trans rfl,(hP.below hB).mono (by omega),h1⟩
 | 1,_=>exact ⟨W.heap.size,0,at',ct,rfl,by omega,(aM hnew 1).trans rfl,(hT.below hB).mono (by omega),h2⟩
theorem Cg (p t:List Int) (ap at':Option Addr) (cp ct:Nat) (W:World) (hP:Ints W.heap.size W ap p) (hT:Ints W.heap.size W at' t) (h1:p.length≤cp∧cp≤maxLen∧(ap = none→cp = 0)) (h2:t.length≤ct∧ct≤maxLen∧(at' = none→ct = 0)) :
 Calls Tryz.prog 71 #[.slice (some ⟨W.heap.size,0,none⟩) 2 2] (W.alloc (.cells #[.slice ap p.length cp,.slice at' t.length ct] 35)) fun e w'=>e = .returned (.int .i64 (Tm.cK p t))∧Below W.heap.size W w' :=
 (EU [p,t] (by simp) _ 2 _ (Uw W p t ap at' cp ct _ (by simp) hP hT h1 h2)).mono fun e w' ⟨h,hB⟩=>⟨h,((Below.refl _ _).alloc (Nat.le_refl _) _).trans (hB.mono (by simp))⟩
theorem Cc {base:Nat} {W:World} {g c:Nat} {ss:List (List Int)} (h:dG base W (.slice (some ⟨g,0,none⟩) 8 c) ss) (hl:ss.length = 8) {k:Nat} (hk:k < 8) :
 base≤g∧∃ x,W.cell? ⟨g,k,none⟩ = some x∧W.frozen? ⟨g,k,none⟩ = false:=by
 obtain ⟨us,h1,_⟩:=h;rw [hl] at h1;have qh:us.length = 8:=by have:=h1.1;omega
 have c0:=World.ownsRow.cellAt h1 k (by omega);rw [List.getElem?_eq_getElem (by omega)] at c0;exact ⟨(World.ownsRow.lt h1 g rfl).1,_,c0,World.ownsRow.frozenAt h1 k⟩
theorem VF (p t:List Int) (ap at':Option Addr) (cp ct:Nat) (w:World) (hP:Ints w.heap.size w ap p) (hT:Ints w.heap.size w at' t) (h1:p.length≤cp∧cp≤maxLen∧(ap = none→cp = 0)) (h2:t.length≤ct∧ct≤maxLen∧(at' = none→ct = 0)) :
 Calls Tryz.prog 51 #[.slice ap p.length cp,.slice at' t.length ct] w fun e w'=>∃ v,e = .returned (.tuple #[v,.bool (Tm.rM p t),.int .i64 (Tm.cK p t)])∧dG w.heap.size w' v (Tm.lJ p t)∧Below w.heap.size w w':=by
 have hC:=Cg p t ap at' cp ct w hP hT h1 h2;by_cases he:Tm.cK p t = 0
 ·obtain ⟨hp,ht⟩:=Tm.ou he
  have hfit:∀ W,Below w.heap.size w W→Calls Tryz.prog 72 #[.slice ap p.length cp,.slice at' t.length ct] W fun e w'=>Below W.heap.size W w'∧MO W w' e (Tm.fit p t):=fun W hW =>
   Pq p t ap at' cp ct W hp ht ((hP.below hW).mono hW.size) ((hT.below hW).mono hW.size) h2.1 h2.2.1
  cases hf:Tm.fit p t with
  | none =>
   obtain ⟨e1,e2⟩:=Tm.Zt he hf;rw [hf] at hfit;rw [e1,e2,he];rw [he] at hC;have HF:=hid hfit;clear hfit hf e1 e2 hp ht he hP hT h1 h2;go_enter Tryz.func51,Tryz.ntmps51;go_wp2_with (first
    | (go_at_call 71;refine hC.mono ?_;clear hC;rintro e w1 ⟨rfl,hB1⟩)
    | (go_at_call 72;refine (HF.out _ hB1).mono ?_;rintro e w2 ⟨hB2,rfl⟩;have hB3:=hB1.trans (hB2.mono hB1.size)))
   go_ret3
   exact ⟨_,rfl,dG.nil _ _,hB3⟩
  | some m =>
   obtain ⟨e1,e2⟩:=Tm.OQ he hf;rw [hf] at hfit;rw [e1,e2,he];rw [he] at hC;have HF:=hid hfit;clear hfit hf e1 e2 hp ht he hP hT h1 h2;go_enter Tryz.func51,Tryz.ntmps51;go_wp2_with (first
    | (go_at_call 71;refine hC.mono ?_;clear hC;rintro e w1 ⟨rfl,hB1⟩)
    | (go_at_call 72;refine (HF.out _ hB1).mono ?_;rintro e w2 ⟨hB2,bm,N,rfl,hbm,M,hM,hMn,hMs⟩;have hB3:=hB1.trans (hB2.mono hB1.size);have HMn:=hid hMn;have HMs:=hid hMs;have HM:=hid hM;clear hMn hMs hM)
    | (go_at_call 73;refine (JU _).mono ?_;rintro e w3 ⟨v,rfl,hN,hB4⟩;have gq:=hB3.trans (hB4.mono hB3.size);have hlen:(Tm.gQ 8).length = 8:=Tm.gy 8;obtain ⟨g,c,rfl⟩:∃ g c,v = .slice (some ⟨g,0,none⟩) 8 c:=(by obtain ⟨us,h1,_⟩:=hN;rw [hlen] at h1;exact ownsRow_succ h1)))
   have Zg:=hid (HM.out.keep (hB4.block _ HM.out.lt));have hgm:g≠bm:=by
    obtain ⟨us,h1,_⟩:=hN;have:=(World.ownsRow.lt h1 g rfl).1
    have:=HM.out.lt
    omega
   have hg2:w2.heap.size≤g:=by
    obtain ⟨us,h1,_⟩:=hN;exact (World.ownsRow.lt h1 g rfl).1
   have HN:=hid hN;clear hN HM hlen;go_loopw [32] (fun i wr=>∃ k:Nat,k≤8∧i = .int .i64 (k:Int)∧Hid (dG w.heap.size wr (.slice (some ⟨g,0,none⟩) 8 c) (Tm.gp m k))∧Hid (dh wr bm N M)∧Below w1.heap.size w2 wr) (fun i _=>8 - (intOf i).toNat)
   case atStart=>exact ⟨0,Nat.zero_le _,rfl,by rw [Tm.Gv];exact HN.out.mono hB3.size,Zg,hB4.mono hB2.size⟩
   case round =>
    obtain ⟨k,hk,rfl,kr,Wo,oH⟩:=hrel;by_cases hlt:k < 8
    ·have hlt':(k:Int) < 8:=by omega
     have hk0:(0:Int)≤(k:Int):=by omega
     have hwf:=hid (WC (s:=-1 - (k:Int)) (by omega) (by omega));cases hm:m (-1 - (k:Int)) with
     | none =>
      have hMs:=hid (HMn.out _ hm);have hst:=hid (Tm.Gw hm);clear hm;go_wp2_with (first
       | (at_lookup;go_loud (refine zI _ rfl _ _ 102 rfl 35 Tryz.underlying102 (qP _) bm N M rfl Wo.out (-1 - (k:Int)) rfl hwf.out hMs.out ?_)))
      go_roundw
      case rel=>exact ⟨k+1,by omega,by go_num,by rw [hst.out];exact kr.out,Wo,oH⟩
      case measure=>simp [intOf];omega
     | some zs =>
      obtain ⟨v,hMs,b3,Zu,c3,rfl,yC,_,_,jD⟩:=HMs.out _ zs hm;have hst:=hid (Tm.Gx hm);have HMv:=hid hMs;have amf:=hB2.size;have hCl:=FV zs b3 Zu c3 wr jD ((yC.below oH).mono (by have:=oH.size;omega));clear hm hMs yC;go_wp2_with (first
       | (at_lookup;go_loud (refine qO _ rfl _ _ 102 rfl 35 Tryz.underlying102 (qP _) bm N M rfl Wo.out (-1 - (k:Int)) rfl hwf.out _ HMv.out ?_))
       | (go_at_call 47;refine hCl.mono ?_;clear hCl;rintro e w5 ⟨u,rfl,We,hBu⟩;obtain ⟨au,cu,rfl,_⟩:=New.ints We;have mV:=hid (kr.out.below hBu);obtain ⟨hg5,x5,hc5,RZ⟩:=Cc mV.out (Tm.ll m k) hlt))
      have OH:Below w.heap.size w wr:=hB1.trans ((hB2.trans oH).mono hB1.size);go_roundw
      case rel =>
       refine ⟨k+1,by omega,by go_num,?_,?_,?_⟩
       ·rw [hst.out]
        exact mV.out.set (Tm.ll m k).symm (We.mono OH.size) k
       ·exact (Wo.out.keep (hBu.block _ Wo.out.lt)).keep (Below.heap_setCell _ _ _ _ (fun e=>hgm e.symm))
       ·exact (oH.trans (hBu.mono (by have:=oH.size;omega))).setCell (p:=⟨g,k,none⟩) (show w1.heap.size≤g by omega) _
      case measure=>simp [intOf];omega
    ·obtain rfl:k = 8:=by omega
     go_wp2;go_ret3
     exact ⟨_,rfl,kr.out,hB1.trans ((hB2.trans oH).mono hB1.size)⟩
 ·obtain ⟨e1,e2⟩:=Tm.WH he
  rw [e1,e2];have hne:(Tm.cK p t != 0) = true:=by simp [he]
  clear hP hT e1 e2 he h1 h2;generalize Tm.cK p t = q at *;go_enter Tryz.func51,Tryz.ntmps51;go_wp2_with (first
   | (go_at_call 71;refine hC.mono ?_;clear hC;rintro e w1 ⟨rfl,hB1⟩))
  go_ret3
  exact ⟨_,rfl,dG.nil _ _,hB1⟩
abbrev ptr (X:Nat):Value:=.pointer (some ⟨X,0,none⟩)
def PartsAt (lo hi:Nat) (W:World) (v:Value) (Xs:List Nat):Prop:=∃ a c,v = .slice a Xs.length c∧∀ j,j < Xs.length→∃ b off,a = some ⟨b,off,none⟩∧lo≤b∧b < hi∧W.cell? ⟨b,off+j,none⟩ = some (ptr (Xs[j]?.getD 0))
inductive bY (lo hi:Nat) (W:World):Nat→List Int→Prop
 | mk (X:Nat) (s:Int) (v:Value) (Xs:List Nat) (df:List (List Int)):lo≤X→X < hi→Node W X s v→PartsAt lo hi W v Xs→Xs.length = Tm.room s→df.length = Xs.length →
  (∀ j,j < Xs.length→bY lo hi W (Xs[j]?.getD 0) (df[j]?.getD []))→bY lo hi W X (s :: df.flatten)
theorem PartsAt.keep {lo hi lo' hi':Nat} {W W':World} {v:Value} {Xs:List Nat} (h:PartsAt lo hi W v Xs) (h1:lo'≤lo) (h2:hi≤hi') (hk:∀ k,lo≤k→k < hi→W'.heap[k]? = W.heap[k]?):PartsAt lo' hi' W' v Xs:=by
 obtain ⟨a,c,rfl,hc⟩:=h;refine ⟨a,c,rfl,fun j hj=>?_⟩;obtain ⟨b,off,e,hb1,hb2,hcell⟩:=hc j hj;exact ⟨b,off,e,by omega,by omega,(World.cell?_of_block (a:=⟨b,off+j,none⟩) (hk b hb1 hb2)).trans hcell⟩
theorem bY.keep {lo hi lo' hi':Nat} {W W':World} {X:Nat} {zs:List Int} (h:bY lo hi W X zs) (h1:lo'≤lo) (h2:hi≤hi') (hk:∀ k,lo≤k→k < hi→W'.heap[k]? = W.heap[k]?):bY lo' hi' W' X zs:=by
 induction h with
 | mk X s v Xs df hX1 hX2 hN hP hr hl _ ih =>
  exact bY.mk X s v Xs df (by omega) (by omega) ((hk X hX1 hX2).trans hN) (hP.keep h1 h2 hk) hr hl ih
theorem bY.under {lo hi n:Nat} {W W':World} {X:Nat} {zs:List Int} (h:bY lo hi W X zs) (hB:Below n W W') (hn:hi≤n):bY lo hi W' X zs :=
 h.keep (Nat.le_refl _) (Nat.le_refl _) fun k _ hk=>hB.block k (by omega)
theorem bY.wide {lo hi lo' hi':Nat} {W:World} {X:Nat} {zs:List Int} (h:bY lo hi W X zs) (h1:lo'≤lo) (h2:hi≤hi'):bY lo' hi' W X zs:=h.keep h1 h2 fun _ _ _=>rfl
theorem Tm.MP {zs:List Int} {m:Nat} (hm:Tm.pos zs 0 (m+1)≤zs.length):(zs.take (Tm.pos zs 0 (m+1))).drop 1 = (zs.take (Tm.pos zs 0 m)).drop 1++(zs.drop (Tm.pos zs 0 m)).take (Tm.pos zs 0 (m+1) - Tm.pos zs 0 m):=by
 have h1:=Tm.mD zs 0 m (m+1) (by omega);have h0:1≤Tm.pos zs 0 m:=Tm.jr zs 0 m;rw [show zs.take (Tm.pos zs 0 (m+1)) = zs.take (Tm.pos zs 0 m)++(zs.drop (Tm.pos zs 0 m)).take (Tm.pos zs 0 (m+1) - Tm.pos zs 0 m) from by
  rw [← List.take_add];congr 1;omega]
 rw [List.drop_append_of_le_length];simp only [List.length_take];omega
def jX (base:Nat) (wr:World) (zs:List Int) (m:Nat) (v:Value) (xs:List Value):Prop :=
 ∃ (Xs:List Nat) (df:List (List Int)),Xs.length = m∧df.length = m∧xs = Xs.map ptr∧df.flatten = (zs.take (Tm.pos zs 0 m)).drop 1 ∧
  ∀ j,j < m→∃ lo hi,base < lo∧hi≤wr.heap.size∧bY lo hi wr (Xs[j]?.getD 0) (df[j]?.getD [])∧∀ k,v.ownBlock = some k→k < lo∨hi≤k
theorem jX.start (base:Nat) (wr:World) (zs:List Int) (v:Value) (xs:List Value) (h:xs = []):jX base wr zs 0 v xs :=
 ⟨[],[],rfl,rfl,by rw [h];rfl,by rw [Tm.dB];simp,fun j hj=>by omega⟩
theorem jX.step {base lo hi:Nat} {wr w2 w3:World} {zs pt:List Int} {m:Nat} {v v':Value} {xs:List Value} {p:Nat} (h:jX base wr zs m v xs) (hlo:lo = wr.heap.size) (hb:base < lo) (hlo2:lo≤hi) (hB1:∀ k,k < lo→w2.heap[k]? = wr.heap[k]?)
 (hT:bY lo hi w2 p pt) (hown:∀ k,v.ownBlock = some k→k < lo) (hown':v'.ownBlock = v.ownBlock∨∃ q,v'.ownBlock = some q∧hi≤q) (hs3:hi≤w3.heap.size)
 (hk:∀ k,base < k→k < hi→(∀ q,v.ownBlock = some q→k≠q)→w3.heap[k]? = w2.heap[k]?)
 (hpt:pt = (zs.drop (Tm.pos zs 0 m)).take (Tm.pos zs 0 (m+1) - Tm.pos zs 0 m)) (hle:Tm.pos zs 0 (m+1)≤zs.length):jX base w3 zs (m+1) v' (xs++[ptr p]):=by
 obtain ⟨Xs,df,h1,h2,h3,h4,h5⟩:=h;refine ⟨Xs++[p],df++[pt],by simp [h1],by simp [h2],by simp [h3],by rw [List.flatten_append,h4,Tm.MP hle,hpt];simp,fun j hj=>?_⟩;by_cases hjm:j < m
 ·obtain ⟨l,h,e1,e2,hTj,e3⟩:=h5 j hjm
  refine ⟨l,h,e1,by omega,?_,?_⟩
  ·rw [List.getElem?_append_left (by omega),List.getElem?_append_left (by omega)]
   refine hTj.keep (Nat.le_refl _) (Nat.le_refl _) fun k hk1 hk2=>?_
   rw [hk k (by omega) (by omega) (fun q hq=>by have:=e3 q hq;omega),hB1 k (by omega)]
  ·intro k hk'
   rcases hown' with e | ⟨q,e,hq⟩
   ·exact e3 k (by rw [← e];exact hk')
   ·rw [e] at hk'
    have:q = k:=by simpa using hk'
    exact .inr (by omega)
 ·obtain rfl:j = m:=by omega
  refine ⟨lo,hi,hb,hs3,?_,?_⟩
  ·rw [List.getElem?_append_right (by omega),List.getElem?_append_right (by omega),h1,h2]
   simp only [Nat.sub_self,List.getElem?_cons_zero,Option.getD_some];refine hT.keep (Nat.le_refl _) (Nat.le_refl _) fun k hk1 hk2=>hk k (by omega) hk2 (fun q hq=>by have:=hown q hq;omega)
  ·intro k hk'
   rcases hown' with e | ⟨q,e,hq⟩
   ·exact .inl (hown k (by rw [← e];exact hk'))
   ·rw [e] at hk'
    have:q = k:=by simpa using hk'
    exact .inr (by omega)
theorem jX.done {base r:Nat} {wr:World} {zs:List Int} {s:Int} {v:Value} {xs:List Value} (h:jX base wr zs r v xs) (hN:Node wr base s v) (hown:wr.ownsRow (base+1) 117 1 v r xs) (hr:r = Tm.room s) (hs:zs[0]?.getD 0 = s) (h0:0 < zs.length) :
 bY base wr.heap.size wr base (zs.take (Tm.pos zs 0 r)):=by
 obtain ⟨Xs,df,h1,h2,h3,h4,h5⟩:=h;have hz:zs.take (Tm.pos zs 0 r) = s :: df.flatten:=by
  rw [h4];have hp:0 < Tm.pos zs 0 r:=Tm.jr zs 0 r;cases zs with
  | nil=>simp at h0
  | cons a l =>
   simp at hs;subst hs;obtain ⟨q,hq⟩:∃ q,Tm.pos (a :: l) 0 r = q+1:=⟨Tm.pos (a :: l) 0 r - 1,by omega⟩;rw [hq];simp
 rw [hz];refine bY.mk base s v Xs df (Nat.le_refl _) hN.lt hN ?_ (by omega) (by omega) (fun j hj=>?_)
 ·rcases hown.2 with ⟨rfl,hn⟩ | ⟨g,cap,cur,rfl,hb,hg,_⟩
  ·exact ⟨none,0,by rw [h1,hn],fun j hj=>by omega⟩
  ·refine ⟨_,cap,by rw [h1],fun j hj=>⟨g,0,rfl,by omega,(Array.getElem?_eq_some_iff.1 hg).1,?_⟩⟩
   have h5:=World.ownsRow.cellAt hown j (by omega);rw [Nat.zero_add,h5,h3];simp [hj]
 ·obtain ⟨lo,hi,e1,e2,hT,_⟩:=h5 j (by omega)
  exact hT.wide (by omega) e2
end Go.Proofs.YtglohanbpjaieaaGreat
