/-
  Parts of the proof: Tree2, Tree3, Tree4, Ord1, Tree5, Tree6, Over1.
-/
import Derived.Test.YtglohanbpjaieaaGreatBru3
import Derived.Deep.RegionHeld3
set_option maxHeartbeats 2000000
set_option maxRecDepth 100000
namespace Go.Proofs.YtglohanbpjaieaaGreat
open Go.Proofs Go.RowKit Go.Shelf Go.Maps
theorem NY (zs:List Int) (a:Option Addr) (cap:Nat) (w:World) (hlen:zs.length≤30) (h0:0 < zs.length) (hall:zs.all Tm.known = true) (hrun:Tm.run zs 1≤zs.length) (hcap:zs.length≤cap) (hcap2:cap≤maxLen)
 (hI:Ints w.heap.size w a zs)
 (ih:∀ (e:Nat) (a':Option Addr) (cap':Nat) (W:World),0 < e→e < zs.length→Tm.run (zs.drop e) 1≤zs.length - e→zs.length - e≤cap'→cap'≤maxLen→Ints W.heap.size W a' (zs.drop e) →
   Calls Tryz.prog 110 #[.slice a' (zs.length - e) cap'] W fun r w'=>∃ a2 c2,r = .returned (.tuple #[ptr W.heap.size,.slice a2 (zs.length - Tm.ai zs e) c2])∧Below W.heap.size W w'∧(∀ n X,Ints n X a' (zs.drop e)→Ints n X a2 (zs.drop (Tm.ai zs e)))∧zs.length - Tm.ai zs e≤c2∧c2≤maxLen∧bY W.heap.size w'.heap.size w' W.heap.size ((zs.drop e).take (Tm.ai zs e - e))) :
 Calls Tryz.prog 110 #[.slice a zs.length cap] w fun r w'=>∃ a2 c2,r = .returned (.tuple #[ptr w.heap.size,.slice a2 (zs.length - Tm.run zs 1) c2])∧Below w.heap.size w w'∧(∀ n X,Ints n X a zs→Ints n X a2 (zs.drop (Tm.run zs 1)))∧zs.length - Tm.run zs 1≤c2∧c2≤maxLen∧bY w.heap.size w'.heap.size w' w.heap.size (zs.take (Tm.run zs 1)):=by
 have abm:cap≤9223372036854775807:=hcap2;obtain ⟨b,off,rfl,hb,hc⟩:=hI.at h0;have hc0:=hc 0 h0;rw [Nat.add_zero] at hc0;have h1:(0:Int) < (zs.length:Int):=by omega
 have jD:(zs.length:Int)≤30:=by omega
 have h2:(zs.length:Int)≤(cap:Int):=by omega
 have hend:=Tm.nN zs 0 h0;rw [Tm.iq] at hend;rw [hend] at hrun ⊢;have hs6:=Tm.gK (Tm.lq hall h0);have hr2:=Tm.room_le (zs[0]?.getD 0);have hI':=show Hid _ from hI
 have ih':=show Hid _ from ih
 clear hc hI hend hall ih;have Hs0:Hid (zs[0]?.getD 0 = zs[0]?.getD 0):=rfl;generalize hsd:zs[0]?.getD 0 = s at hc0 hrun hs6 hr2 ⊢;have HS:=hid hsd;clear hsd Hs0;have hsz:∀ W,Calls Tryz.prog 43 #[.int .i64 s] W fun e w'=>e = .returned (.int .i64 (Tm.room s:Int))∧w' = W:=fun W=>yG s W hs6
 clear hs6;generalize hrd:Tm.room s = r at hrun hr2 hsz ⊢;have HR:=hid hrd.symm;clear hrd;obtain ⟨i0,hi,hz0,hz1,hz2⟩:=info_parts Tryz.GN;have mY:Node (w.alloc (.cells #[.int .i64 s,.slice none 0 0] 121)) w.heap.size s (.slice none 0 0):=World.alloc_heap_new w _;have hB0:Below w.heap.size w (w.alloc (.cells #[.int .i64 s,.slice none 0 0] 121)):=(Below.refl _ w).alloc (Nat.le_refl _) _;have hs0:w.heap.size < (w.alloc (.cells #[.int .i64 s,.slice none 0 0] 121)).heap.size:=by simp
 obtain ⟨W0,hW0⟩:∃ W0,w.alloc (.cells #[.int .i64 s,.slice none 0 0] 121) = W0:=⟨_,rfl⟩;rw [hW0] at mY hB0 hs0;have HW0:Hid (w.alloc (.cells #[.int .i64 s,.slice none 0 0] 121) = W0):=hW0;clear hW0;by_cases hc1:cap = 1
 ·subst hc1
  have hl1:zs.length = 1:=by omega
  have hr0:r = 0:=by have:=Tm.mD zs 0 1 r;have h:=Tm.ed zs 0 0;rw [Nat.zero_add] at h;have:=Tm.dw zs (Tm.pos zs 0 0);have:=Tm.dB zs 0;omega
  subst hr0;have HT:=hid ((jX.start w.heap.size W0 zs (.slice none 0 0) [] rfl).done mY (World.ownsRow_nil _ _ _ _) HR.out HS.out h0);rw [Tm.dB] at HT ⊢;go_enter Tryz.func110,Tryz.ntmps110;go_wp2;rw [HW0.out];have hn0:=mY.cell0;have HN:=show Hid _ from mY
  clear mY hl1;refine wp_loop_rounds 1 ?_;rw [rounds_succ];go_wp2_with (go_at_call 43;refine (hsz _).mono ?_;rintro e wr ⟨rfl,rfl⟩)
  go_ret2
  refine ⟨some ⟨b,off,none⟩,0,?_,hB0,fun n X hX=>by rw [List.drop_of_length_le (by omega)];exact Ints.nil _ _ _,by omega,by unfold maxLen;omega,HT.out⟩;rw [show zs.length - (0+1) = 0 from by omega];rfl
 ·have Hc1:Hid (¬ cap = 1):=hc1
  go_enter Tryz.func110,Tryz.ntmps110;go_wp2;rw [HW0.out];go_loopw [5,6] (fun q i wr=>∃ (m:Nat) (a':Option Addr) (c':Nat) (v:Value) (xs:List Value),m≤r∧i = .int .i64 (m:Int)∧q = .slice a' (zs.length - Tm.pos zs 0 m) c'∧Hid (∀ n X,Ints n X (some ⟨b,off,none⟩) zs→Ints n X a' (zs.drop (Tm.pos zs 0 m)))∧zs.length - Tm.pos zs 0 m≤c'∧c'≤maxLen ∧
   Node wr w.heap.size s v∧wr.ownsRow (w.heap.size+1) 117 1 v m xs∧Below w.heap.size w wr∧Hid (jX w.heap.size wr zs m v xs)) (fun _ i _=>r - (intOf i).toNat)
  case atStart=>exact ⟨0,_,_,_,[],Nat.zero_le _,rfl,by rw [Tm.dB],fun n X hX=>by rw [Tm.dB];exact hX.drop 1,by rw [Tm.dB];omega,by unfold maxLen;omega,mY,World.ownsRow_nil _ _ _ _,hB0,jX.start _ _ _ _ _ rfl⟩
  case round =>
   obtain ⟨m,a',c',v,xs,hm,rfl,rfl,X4,Db,GQ,hN,hown,hB,hSt⟩:=hrel;have hn0:=hN.cell0;by_cases hlt:m < r
   ·have hlt':(m:Int) < (r:Int):=by omega
    have hp1:=Tm.jr zs 0 m;have hp2:=Tm.ed zs 0 m;have hp3:=Tm.mD zs 0 (m+1) r (by omega);have hp4:=Tm.dw zs (Tm.pos zs 0 m);have hg:=ih'.out (Tm.pos zs 0 m) a' c' wr hp1 (by omega) (by unfold Tm.ai at hp2;omega) Db GQ ((X4.out _ _ (Ints.below hB hI'.out)).mono hB.size);rw [← hp2] at hg;have hX:=hN.lt;have aeD:c'≤9223372036854775807:=GQ;have Hp3:=show Hid _ from hp3
    have Xx:Hid (Tm.pos zs 0 (m+1)≤zs.length):=by show _≤_;omega
    clear hp1 hp2 hp3 hp4 GQ mY hB0 hcap2;go_wp2_with (first
     | (go_at_call 43;refine (hsz _).mono ?_;rintro e wr ⟨rfl,rfl⟩)
     | (go_at_call 110;refine hg.mono ?_;clear hg;rintro e W1 ⟨a2,c2,rfl,hB1,hI2,hc2,hc22,hT1⟩;have hN1:=hN.kept (dx hB1) (by simp);have hown1:=hown.kept (dx hB1) (by cases h:v.ownBlock with | none=>exact .inl rfl | some k=>exact .inr (by simp));obtain ⟨ao,co,rfl⟩:=Jv hown1;have hn1:=hN1.cell1;have hf1:=hN1.frozen;have HI2:=show Hid _ from hI2;clear hI2;have X5:=show Hid _ from hc22;clear hc22;have HT1:=hid hT1;clear hT1)
     | (at_builtin;go_loud (refine wpList_append_own_at _ rfl _ _ 113 rfl (w.heap.size+1) 117 i0 (.pointer none) 1 8 Tryz.underlying113 hi hz0 hz1 hz2 rfl (by decide) _ _ _ rfl (hown1.alloc _) ⟨W1.heap.size,0,none⟩ 1 1 [ptr wr.heap.size] rfl rfl (cell_one_new _ _ _) (by simp [Value.oneCell',ptr]) (by unfold maxLen;omega) (by omega) (by have:=hB1.size;simp;omega) ?_);intro v' w2 hown' hgrow _ hat;obtain ⟨g',cap',rfl⟩:=ownsRow_succ hown';have R:=hN1.appended hown1 hown' hgrow;have hn2:=R.1.cell1;have hf2:=R.1.frozen;have HR2:=show Hid _ from R;have Hg:=hid hgrow;have Hat:=hid hat;clear R hown' hgrow hat))
    refine ⟨⟨m+1,a2,c2,_,_,by omega,by go_num,rfl,fun n X hX=>HI2.out n X (X4.out n X hX),hc2,X5.out,HR2.out.2.1,HR2.out.2.2.1,(hB.trans (hB1.mono hB.size)).trans HR2.out.2.2.2,?_⟩,by simp [intOf];omega⟩;have hs1:=hB1.size;have hs2:=Hg.out.size;have ho:∀ k,(Value.slice ao m co).ownBlock = some k→w.heap.size < k∧k < wr.heap.size:=fun k hk=>by have:=hown.lt k hk;omega
    refine jX.step hSt.out rfl hX hs1 (fun k hk=>hB1.block k hk) HT1.out (fun k hk=>(ho k hk).2) ?_ ?_ ?_ rfl Xx.out
    ·rcases Hat.out with e | e
     ·exact .inl e
     ·exact .inr ⟨_,e,by simp⟩
    ·have hs3:=(KeepsWalks.setCell w2 ⟨w.heap.size,1,none⟩ (Value.slice (some ⟨g',0,none⟩) (m+1) cap')).size;simp at hs2;omega
    ·intro k hk1 hk2 hk3
     rw [Below.heap_setCell _ _ _ _ (by simp;omega),Hg.out.block k (by simp;omega) (fun e=>hk3 k e.symm rfl),Below.heap_alloc _ _ _ hk2]
   ·obtain rfl:m = r:=by omega
    have HT:=hid (hSt.out.done hN hown HR.out HS.out h0);go_wp2_with (go_at_call 43;refine (hsz _).mono ?_;rintro e wr ⟨rfl,rfl⟩)
    go_ret2
    exact ⟨_,_,rfl,hB,X4,Db,GQ,HT.out⟩
theorem QW:∀ (m:Nat) (zs:List Int) (a:Option Addr) (cap:Nat) (w:World),zs.length≤m→zs.length≤30→0 < zs.length→zs.all Tm.known = true→Tm.run zs 1≤zs.length→zs.length≤cap→cap≤maxLen→Ints w.heap.size w a zs →
 Calls Tryz.prog 110 #[.slice a zs.length cap] w fun r w'=>∃ a2 c2,r = .returned (.tuple #[ptr w.heap.size,.slice a2 (zs.length - Tm.run zs 1) c2])∧Below w.heap.size w w'∧(∀ n X,Ints n X a zs→Ints n X a2 (zs.drop (Tm.run zs 1)))∧zs.length - Tm.run zs 1≤c2∧c2≤maxLen∧bY w.heap.size w'.heap.size w' w.heap.size (zs.take (Tm.run zs 1)):=by
 intro m;induction m with
 | zero=>intro zs a cap w h1 _ h2;omega
 | succ m ih =>
  intro zs a cap w hm jD h0 hall hrun hcap hcap2 hI;refine NY zs a cap w jD h0 hall hrun hcap hcap2 hI ?_;intro e a' cap' W he1 he2 hr hc hc2 hIe;have h:=ih (zs.drop e) a' cap' W (by rw [List.length_drop];omega) (by rw [List.length_drop];omega) (by rw [List.length_drop];omega)
   (by rw [List.all_eq_true] at hall ⊢;exact fun x hx=>hall x (List.mem_of_mem_drop hx)) (by rw [List.length_drop];exact hr) (by rw [List.length_drop];exact hc) hc2 hIe
  simp only [List.length_drop,List.drop_drop] at h;rw [Tm.r9,show zs.length - (e+Tm.run (zs.drop e) 1) = zs.length - e - Tm.run (zs.drop e) 1 from by omega,show e+Tm.run (zs.drop e) 1 - e = Tm.run (zs.drop e) 1 from by omega];exact h
theorem pJ (zs:List Int) (a:Option Addr) (cap:Nat) (w:World) (he:Tm.err zs = 0) (hcap:zs.length≤cap) (hcap2:cap≤maxLen) (hI:Ints w.heap.size w a zs) :
 Calls Tryz.prog 81 #[.slice a zs.length cap] w fun r w'=>r = .returned (ptr w.heap.size)∧Below w.heap.size w w'∧bY w.heap.size w'.heap.size w' w.heap.size zs:=by
 have hr:=Tm.eT he;have hg:=QW _ zs a cap w (Nat.le_refl _) (Tm.aI he) (Tm.bM he) (Tm.dH he) (by omega) hcap hcap2 hI;rw [hr,List.take_length] at hg;clear hI hr he;go_enter Tryz.func81,Tryz.ntmps81;go_wp2_with (go_at_call 110;refine hg.mono ?_;clear hg;rintro e w1 ⟨a2,c2,rfl,hB,_,_,_,hT⟩)
 go_ret;exact ⟨rfl,hB,hT⟩
theorem jW {df:List (List Int)} {k:Nat} (hk:k < df.length):(df.take (k+1)).flatten = (df.take k).flatten++(df[k]?.getD []):=by
 rw [sH hk,List.flatten_append];simp
theorem sK {df:List (List Int)} {k:Nat} (hk:k < df.length):(df.take k).flatten.length+(df[k]?.getD []).length≤df.flatten.length:=by
 have h1:df.flatten.length = ((df.take (k+1))++df.drop (k+1)).flatten.length:=by rw [List.take_append_drop]
 rw [h1,List.flatten_append,List.length_append,jW hk,List.length_append];omega
theorem CV {df:List (List Int)} (k:Nat):(df.take k).flatten.length≤df.flatten.length:=by
 have h1:df.flatten.length = ((df.take k)++df.drop k).flatten.length:=by rw [List.take_append_drop]
 rw [h1,List.flatten_append,List.length_append];omega
theorem QX {base:Nat} {W:World} {v:Value} {zs:List Int} (h:New base W v zs):∃ a cap,v = .slice a zs.length cap∧Ints W.heap.size W a zs∧(a = none→zs.length = 0∧cap = 0):=by
 obtain ⟨a,cap,rfl,hI,h1,h2⟩:=New.ints h;refine ⟨a,cap,rfl,hI,fun e=>?_⟩;subst e;rcases h.2 with ⟨e,hn⟩ | ⟨g,c,cur,e,_⟩
 ·simp only [Value.slice.injEq] at e;exact ⟨hn,e.2.2⟩
 ·simp at e
theorem UH {lo hi:Nat} {W:World} {X:Nat} {zs:List Int} (h:bY lo hi W X zs):zs.length≤1000→∀ W',(∀ k,lo≤k→k < hi→W'.heap[k]? = W.heap[k]?)→hi≤W'.heap.size →
 Calls Tryz.prog 129 #[ptr X] W' fun e w'=>∃ v,e = .returned v∧New W'.heap.size w' v zs∧Below W'.heap.size W' w':=by
 induction h with
 | mk X s v Xs df hX1 hX2 hN hP hr hl _ ih =>
  intro hlen w hw hhi;simp only [List.length_cons] at hlen;obtain ⟨a,c,rfl,hc⟩:=hP;have hr2:=Tm.room_le s;have hN':Node w X s (.slice a Xs.length c):=(hw X hX1 hX2).trans hN;have hn0:=hN'.cell0;have hl0:=New.lit w.heap.size w [s] (Nat.le_refl _) (by unfold maxLen;simp);simp only [List.map_cons,List.map_nil,List.length_cons,List.length_nil,Nat.zero_add] at hl0;have hB0:Below w.heap.size w (w.alloc (.cells #[.int .i64 s] 3)):=(Below.refl _ _).alloc (Nat.le_refl _) _;have hX3:(Xs.length:Int)≤2:=by omega
  have IH:=hid ih;have HW:=hid hw;have Hc:=hid hc;have HN':=hid hN';have Hl:=hid hl;have Hr:=hid hr;have Hlen:=hid hlen;clear ih hw hc hN hN' hl hr hlen;go_enter Tryz.func129,Tryz.ntmps129;go_wp2;go_loopw [3,4] (fun u i wr=>∃ k:Nat,k≤Xs.length∧i = .int .i64 (k:Int)∧Hid (New w.heap.size wr u (s :: (df.take k).flatten))∧Below w.heap.size w wr) (fun _ i _=>Xs.length - (intOf i).toNat)
  case atStart=>exact ⟨0,Nat.zero_le _,rfl,by simpa [Hid] using hl0,hB0⟩
  case round =>
   obtain ⟨k,hk,rfl,kr,hB⟩:=hrel;have hNr:Node wr X s (.slice a Xs.length c):=(hB.block X (by omega)).trans HN'.out;have hn1:=hNr.cell1;obtain ⟨a0,c0,rfl,_⟩:=New.ints kr.out;by_cases hlt:k < Xs.length
   ·have hlt':(k:Int) < (Xs.length:Int):=by omega
    obtain ⟨b,off,rfl,hb1,hb2,hcell⟩:=Hc.out k hlt;have hck:wr.cell? ⟨b,off+k,none⟩ = some (ptr (Xs[k]?.getD 0)):=(World.cell?_of_block (a:=⟨b,off+k,none⟩) ((hB.block b (by omega)).trans (HW.out b hb1 hb2))).trans hcell;have hle:=sK (df:=df) (k:=k) (by have:=Hl.out;omega);have hF:=IH.out k hlt (by have:=Hlen.out;omega) wr (fun q h1 h2=>(hB.block q (by omega)).trans (HW.out q h1 h2)) (by have:=hB.size;omega);have hsn:=hid (jW (df:=df) (k:=k) (by have:=Hl.out;omega));have Xx:Hid ((s :: (df.take k).flatten).length+(df[k]?.getD []).length≤1000000):=by have:=Hlen.out;show _≤_;simp only [List.length_cons];omega
    clear hcell hle hNr;generalize df[k]?.getD [] = pt at *;generalize Xs[k]?.getD 0 = Y at *;generalize hys:s :: (df.take k).flatten = ys at *;have Hys:=hid hys;clear hys;go_wp2_with (first
     | (go_at_call 129;refine hF.mono ?_;clear hF;rintro e w1 ⟨v1,rfl,hN1,hB1⟩;have ahr:=hid (kr.out.below hB1);have hB2:=hB.trans (hB1.mono hB.size);obtain ⟨a1,c1,rfl,hI1,hn⟩:=QX hN1)
     | (at_builtin;go_loud (refine aK _ rfl _ _ rfl w.heap.size _ ys rfl ahr.out a1 pt c1 rfl hn hI1 Xx.out hB2.size ?_);intro v' w2 eH hB3;obtain ⟨a2,c2,rfl,_⟩:=New.ints eH))
    go_roundw
    case rel=>exact ⟨k+1,by omega,by go_num,by rw [hsn.out,← List.cons_append,Hys.out];simpa [Hid] using eH,hB2.trans hB3⟩
    case measure=>simp [intOf];omega
   ·obtain rfl:k = Xs.length:=by omega
    have hz:Hid (df.take Xs.length = df):=by show _ = _;rw [← Hl.out,List.take_length]
    go_wp2;go_ret;refine ⟨_,rfl,?_,hB⟩;have h:=kr.out;show New w.heap.size wr (.slice a0 (s :: (df.take Xs.length).flatten).length c0) (s :: df.flatten);rw [hz.out] at h ⊢;exact h
theorem E5 {lo hi:Nat} {X:Nat} {zs:List Int} (w:World) (h:bY lo hi w X zs) (hl:zs.length≤1000) (hi':hi≤w.heap.size) :
 Calls Tryz.prog 129 #[ptr X] w fun e w'=>∃ v,e = .returned v∧New w.heap.size w' v zs∧Below w.heap.size w w' :=
 UH h hl w (fun _ _ _=>rfl) hi'
theorem Tm.qD (df:List (List Int)):(∀ j,j < df.length→Tm.run (df[j]?.getD []) 1 = (df[j]?.getD []).length)→Tm.run df.flatten df.length = df.flatten.length:=by
 induction df with
 | nil=>intro _;simp [Tm.cZ]
 | cons t l ih =>
  intro h;have h0:Tm.run t 1 = t.length:=by simpa using h 0 (by simp)
  have hl:=ih (fun j hj=>by simpa using h (j+1) (by simpa using hj));rw [List.length_cons,Nat.add_comm,Tm.lV,List.flatten_cons,Tm.kF t _ 1 (by omega),h0,List.drop_left,hl,List.length_append]
theorem bY.run {lo hi:Nat} {W:World} {X:Nat} {zs:List Int} (h:bY lo hi W X zs):Tm.run zs 1 = zs.length:=by
 induction h with
 | mk X s v Xs df _ _ _ _ hr hl _ ih =>
  rw [show (1:Nat) = 0+1 from rfl,Tm.bU,Nat.zero_add,← hr,← hl,Tm.qD df (fun j hj=>ih j (by omega)),List.length_cons];omega
theorem Tm.mq {pre t post:List Int} {k:Nat} (hk:k≤t.length) (he:Tm.ai t k≤t.length):Tm.ai (pre++(t++post)) (pre.length+k) = pre.length+Tm.ai t k:=by
 unfold Tm.ai at he ⊢;rw [List.drop_append,List.drop_of_length_le (by omega),List.nil_append,Nat.add_sub_cancel_left,List.drop_append_of_le_length hk,Tm.kF _ _ _ (by rw [List.length_drop];omega)];omega
theorem Tm.y8 {pre t post:List Int} {k:Nat} (hk:k≤t.length) (he:Tm.ai t k≤t.length):Tm.part (pre++(t++post)) (pre.length+k) = Tm.part t k:=by
 unfold Tm.part;rw [Tm.mq hk he,List.drop_append,List.drop_of_length_le (by omega),List.nil_append,Nat.add_sub_cancel_left,List.drop_append_of_le_length hk,show pre.length+Tm.ai t k - (pre.length+k) = Tm.ai t k - k from by omega,
  List.take_append_of_le_length (by rw [List.length_drop];omega)]
theorem Tm.WN {pre t post:List Int} {k:Nat} (hk:k < t.length):(pre++(t++post))[pre.length+k]?.getD 0 = t[k]?.getD 0:=by
 rw [List.getElem?_append_right (by omega),Nat.add_sub_cancel_left,List.getElem?_append_left hk]
theorem fo.fin {p t:List Int} {k:Nat} (h:fo p t p.length k):k = t.length:=by
 obtain ⟨o,h1,h2,h3,h4⟩:=h;rw [List.drop_length,Tm.jJ] at h1;have:o = 0:=by omega
 subst this;rw [Tm.cZ] at h2;omega
theorem Tm.QY (pre t post p rest:List Int):∀ (n i k:Nat) (m:nT),p.length - i = n→i≤p.length→fo p t i k →
 Tm.fitGo (pre++(t++post)) (p.drop i++rest) (pre.length+k) m = (Tm.fitGo t (p.drop i) k m).bind fun m'=>Tm.fitGo (pre++(t++post)) rest (pre.length+t.length) m':=by
 intro n;induction n with
 | zero =>
  intro i k m hn hi ha;obtain rfl:i = p.length:=by omega
  rw [List.drop_length,Tm.kC,ha.fin];rfl
 | succ n ih =>
  intro i k m hn hi ha;have hlt:i < p.length:=by omega
  have hk:=ha.pos hlt;have he:=ha.KQ hlt;rw [List.drop_eq_getElem_cons hlt,List.cons_append,Tm.fitGo,Tm.fitGo,Tm.y8 (by omega) he,Tm.mq (by omega) he,Tm.WN hk];by_cases hs:p[i] < 0
  ·rw [if_pos hs,if_pos hs]
   split
   ·rfl
   ·exact ih (i+1) (Tm.ai t k) _ (by omega) (by omega) (ha.var hlt (by simpa [hlt] using hs))
  ·rw [if_neg hs,if_neg hs]
   by_cases hu:t[k]?.getD 0 = p[i]
   ·rw [if_pos hu,if_pos hu]
    exact ih (i+1) (k+1) m (by omega) (by omega) (ha.sym hlt (by simpa [hlt] using hu))
   ·rw [if_neg hu,if_neg hu];rfl
theorem Bp {df:List (List Int)} {j:Nat} (hj:j < df.length):(df.drop j).flatten = df[j]?.getD []++(df.drop (j+1)).flatten:=by
 rw [List.drop_eq_getElem_cons hj,List.flatten_cons];simp [hj]
theorem nJ {df:List (List Int)} {j:Nat} (hj:j < df.length):df.flatten = (df.take j).flatten++(df[j]?.getD []++(df.drop (j+1)).flatten):=by
 rw [← Bp hj,← List.flatten_append,List.take_append_drop]
theorem Tm.UI {s:Int} {E8 qU:List (List Int)} {j:Nat} (m:nT) (hj:j < E8.length) (hl:qU.length = E8.length) (hp:Tm.run (E8[j]?.getD []) 1 = (E8[j]?.getD []).length) (ht:Tm.run (qU[j]?.getD []) 1 = (qU[j]?.getD []).length) :
 Tm.fitGo (s :: qU.flatten) (E8.drop j).flatten (1+(qU.take j).flatten.length) m = (Tm.fitGo (qU[j]?.getD []) (E8[j]?.getD []) 0 m).bind fun m'=>Tm.fitGo (s :: qU.flatten) (E8.drop (j+1)).flatten (1+(qU.take (j+1)).flatten.length) m':=by
 have h:=Tm.QY (s :: (qU.take j).flatten) (qU[j]?.getD []) (qU.drop (j+1)).flatten (E8[j]?.getD []) (E8.drop (j+1)).flatten _ 0 0 m rfl (by omega) ⟨1,by simpa using hp,by simpa using ht,by omega,by omega⟩;rw [List.cons_append,← nJ (by omega),List.drop_zero,← Bp hj,List.length_cons] at h;rw [jW (by omega),List.length_append,show 1+((qU.take j).flatten.length+(qU[j]?.getD []).length) = (qU.take j).flatten.length+1+(qU[j]?.getD []).length from by omega,show 1+(qU.take j).flatten.length = (qU.take j).flatten.length+1+0 from by omega];exact h
theorem UJ {α:Type} {m:Int→Option α} {s:Int} {v:α} (h:m s = some v):upd m s v = m:=by
 funext x
 by_cases e:x = s
 ·subst e;rw [upd_same,h]
 ·rw [gP _ _ e]
theorem Tm.jb {ts:List Int} (h:Tm.run ts 1 = ts.length):Tm.part ts 0 = ts:=by
 unfold Tm.part Tm.ai;rw [List.drop_zero,h,Nat.zero_add,Nat.sub_zero,List.take_length]
def Ch (W:World) (Bs lo hi:Nat) (m:nT):Prop:=∀ v:Nat,v < 8→W.frozen? ⟨Bs,v,none⟩ = false ∧
 ((m (-1 - (v:Int)) = none∧W.cell? ⟨Bs,v,none⟩ = some (.pointer none))∨∃ zs X,m (-1 - (v:Int)) = some zs∧W.cell? ⟨Bs,v,none⟩ = some (ptr X)∧bY lo hi W X zs∧zs.length≤30)
theorem Ch.keep {W W':World} {Bs lo hi n:Nat} {m:nT} (h:Ch W Bs lo hi m) (hB:Below n W W') (h1:Bs < n) (h2:hi≤n):Ch W' Bs lo hi m:=fun v hv=>by
 obtain ⟨hf,hc⟩:=h v hv;refine ⟨by rw [← hf];simp only [World.frozen?,hB.block Bs h1],?_⟩;rcases hc with ⟨e1,e2⟩ | ⟨zs,X,e1,e2,hT,e3⟩
 ·exact .inl ⟨e1,(hB.cell (p:=⟨Bs,v,none⟩) h1).trans e2⟩
 ·exact .inr ⟨zs,X,e1,(hB.cell (p:=⟨Bs,v,none⟩) h1).trans e2,hT.under hB h2,e3⟩
theorem C8 (W:World) (a b:Addr) (v:Value):(W.setCell a v).frozen? b = W.frozen? b:=World.frozen?_setCell ..
theorem Ch.set {W:World} {Bs lo hi T v:Nat} {m:nT} {ts:List Int} (h:Ch W Bs lo hi m) (hv:v < 8) (hlo:Bs < lo) (hT:bY lo hi W T ts) (ht:ts.length≤30) :
 Ch (W.setCell ⟨Bs,v,none⟩ (ptr T)) Bs lo hi (upd m (-1 - (v:Int)) ts):=fun x hx=>by
 have hk:∀ k,lo≤k→k < hi→(W.setCell ⟨Bs,v,none⟩ (ptr T)).heap[k]? = W.heap[k]?:=fun k h1 _=>Below.heap_setCell _ _ _ k (by simp;omega)
 obtain ⟨hf,hc⟩:=h x hx;refine ⟨by rw [C8];exact hf,?_⟩;by_cases e:x = v
 ·subst e
  refine .inr ⟨ts,T,upd_same _ _ _,World.cell?_setCell_same' _ _ _ ?_,hT.keep (Nat.le_refl _) (Nat.le_refl _) hk,ht⟩;rcases hc with ⟨_,e2⟩ | ⟨_,_,_,e2,_⟩ <;> rw [e2] <;> rfl
 ·have hne:(-1 - (x:Int))≠(-1 - (v:Int)):=by omega
  have hcc:(W.setCell ⟨Bs,v,none⟩ (ptr T)).cell? ⟨Bs,x,none⟩ = W.cell? ⟨Bs,x,none⟩:=World.cell?_setCell_other _ _ _ _ (fun h=>e (by cases h;rfl));rw [gP _ _ hne,hcc];rcases hc with ⟨e1,e2⟩ | ⟨zs,X,e1,e2,hT',e3⟩
  ·exact .inl ⟨e1,e2⟩
  ·exact .inr ⟨zs,X,e1,e2,hT'.keep (Nat.le_refl _) (Nat.le_refl _) hk,e3⟩
end Go.Proofs.YtglohanbpjaieaaGreat
namespace Go.Proofs.YtglohanbpjaieaaGreat
open Go.Proofs Go.RowKit Go.Shelf
def Tm.sym (x:List Int):Int:=x[0]?.getD 0
def Tm.kid (x:List Int) (m:Nat):List Int:=Tm.part x (Tm.pos x 0 m)
theorem Tm.fB {x:List Int} {m:Nat} (h:m < Tm.room (Tm.sym x)):(Tm.kid x m).length < x.length:=by
 cases x with
 | nil=>simp [Tm.sym,Tm.room] at h
 | cons s l =>
  have:=Tm.jr (s :: l) 0 m
  simp only [Tm.kid,Tm.part,List.length_take,List.length_drop,List.length_cons];omega
inductive Tm.Gt (r:Int→Int):List Int→List Int→Prop
 | eq (a b:List Int) (m:Nat):m < Tm.room (Tm.sym a)→Tm.kid a m = b→Tm.Gt r a b
 | sub (a b:List Int) (m:Nat):m < Tm.room (Tm.sym a)→Tm.Gt r (Tm.kid a m) b→Tm.Gt r a b
 | rk (a b:List Int):0≤Tm.sym a→0≤Tm.sym b→(∀ m,m < Tm.room (Tm.sym b)→Tm.Gt r a (Tm.kid b m))→Tm.sym a≠Tm.sym b→r (Tm.sym b) < r (Tm.sym a)→Tm.Gt r a b
 | lex (a b:List Int) (m:Nat):0≤Tm.sym a→Tm.sym a = Tm.sym b→(∀ m,m < Tm.room (Tm.sym b)→Tm.Gt r a (Tm.kid b m))→m < Tm.room (Tm.sym a)→(∀ l,l < m→Tm.kid a l = Tm.kid b l)→Tm.Gt r (Tm.kid a m) (Tm.kid b m)→Tm.Gt r a b
theorem Tm.Gt.pos {r:Int→Int} {a b:List Int} (h:Tm.Gt r a b):0≤Tm.sym a:=by
 have key:∀ m,m < Tm.room (Tm.sym a)→0≤Tm.sym a:=fun m hm=>by unfold Tm.room at hm;split at hm <;> (try split at hm) <;> omega
 cases h with
 | eq _ _ m hm _=>exact key m hm
 | sub _ _ m hm _=>exact key m hm
 | rk _ _ h0 _ _ _ _=>exact h0
 | lex _ _ _ h0 _ _ _ _ _=>exact h0
theorem Tm.Gt.WO {r:Int→Int}:∀ (n:Nat) (a b c:List Int),a.length+b.length+c.length < n→Tm.Gt r a b→Tm.Gt r b c→Tm.Gt r a c:=by
 intro n;induction n with
 | zero=>intro a b c hn;omega
 | succ n ih =>
  intro a b c hn hab hbc;have main:(∀ m,m < Tm.room (Tm.sym b)→Tm.Gt r a (Tm.kid b m))→0≤Tm.sym a→((Tm.sym a≠Tm.sym b∧r (Tm.sym b) < r (Tm.sym a))∨(Tm.sym a = Tm.sym b∧∃ m,m < Tm.room (Tm.sym a)∧(∀ l,l < m→Tm.kid a l = Tm.kid b l)∧Tm.Gt r (Tm.kid a m) (Tm.kid b m)))→Tm.Gt r a c:=by
   intro hall ha0 how;cases hbc with
   | eq _ _ m hm e=>rw [← e];exact hall m hm
   | sub _ _ m hm h=>exact ih a (Tm.kid b m) c (by have:=Tm.fB hm;omega) (hall m hm) h
   | rk _ _ hb0 hc0 hcs hne hr =>
    have E9:∀ m,m < Tm.room (Tm.sym c)→Tm.Gt r a (Tm.kid c m):=fun m hm=>ih a b (Tm.kid c m) (by have:=Tm.fB hm;omega) hab (hcs m hm)
    rcases how with ⟨h1,h2⟩ | ⟨h1,_⟩
    ·refine .rk a c ha0 hc0 E9 (fun e=>?_) (by omega)
     rw [e] at h2;omega
    ·exact .rk a c ha0 hc0 E9 (by rw [h1];exact hne) (by rw [h1];exact hr)
   | lex _ _ m hb0 hs hcs hm hl hk =>
    have E9:∀ m,m < Tm.room (Tm.sym c)→Tm.Gt r a (Tm.kid c m):=fun m hm=>ih a b (Tm.kid c m) (by have:=Tm.fB hm;omega) hab (hcs m hm)
    rcases how with ⟨h1,h2⟩ | ⟨h1,m',hm',hl',hk'⟩
    ·exact .rk a c ha0 (by omega) E9 (by rw [← hs];exact h1) (by rw [← hs];exact h2)
    ·rcases Nat.lt_trichotomy m m' with hlt | heq | hgt
     ·exact .lex a c m ha0 (h1.trans hs) E9 (by omega) (fun l hlm=>(hl' l (by omega)).trans (hl l hlm)) (by rw [hl' m hlt];exact hk)
     ·subst heq
      refine .lex a c m ha0 (h1.trans hs) E9 hm' (fun l hlm=>(hl' l hlm).trans (hl l hlm)) (ih _ _ _ ?_ hk' hk);have e1:=Tm.fB (x:=a) hm';have e2:=Tm.fB (x:=b) hm;have e3:=Tm.fB (x:=c) (m:=m) (by rw [← hs];exact hm);omega
     ·exact .lex a c m' ha0 (h1.trans hs) E9 hm' (fun l hlm=>(hl' l hlm).trans (hl l (by omega))) (by rw [← hl m' hgt];exact hk')
  cases hab with
  | eq _ _ m hm e=>exact .sub a c m hm (by rw [e];exact hbc)
  | sub _ _ m hm h=>exact .sub a c m hm (ih _ b c (by have:=Tm.fB hm;omega) h hbc)
  | rk _ _ ha0 hb0 hall hne hr=>exact main hall ha0 (.inl ⟨hne,hr⟩)
  | lex _ _ m ha0 hs hall hm hl hk=>exact main hall ha0 (.inr ⟨hs,m,hm,hl,hk⟩)
theorem Tm.Gt.trans {r:Int→Int} {a b c:List Int} (h:Tm.Gt r a b) (h':Tm.Gt r b c):Tm.Gt r a c:=Tm.Gt.WO _ a b c (Nat.lt_succ_self _) h h'
theorem Tm.Gt.irrefl {r:Int→Int}:∀ (n:Nat) (a:List Int),a.length < n→¬ Tm.Gt r a a:=by
 intro n;induction n with
 | zero=>intro a h;omega
 | succ n ih =>
  intro a hn h;cases h with
  | eq _ _ m hm e=>have:=Tm.fB hm;rw [e] at this;omega
  | sub _ _ m hm h=>exact ih (Tm.kid a m) (by have:=Tm.fB hm;omega) (h.trans (.eq a _ m hm rfl))
  | rk _ _ _ _ _ hne _=>exact hne rfl
  | lex _ _ m _ _ _ hm _ hk=>exact ih (Tm.kid a m) (by have:=Tm.fB hm;omega) hk
theorem Tm.Gt.self {r:Int→Int} (a:List Int):¬ Tm.Gt r a a:=Tm.Gt.irrefl _ a (Nat.lt_succ_self _)
theorem Tm.Gt.iff {r:Int→Int} (a b:List Int):Tm.Gt r a b ↔ (∃ m,m < Tm.room (Tm.sym a)∧(Tm.kid a m = b∨Tm.Gt r (Tm.kid a m) b)) ∨
 (0≤Tm.sym a∧0≤Tm.sym b∧(∀ m,m < Tm.room (Tm.sym b)→Tm.Gt r a (Tm.kid b m))∧((Tm.sym a≠Tm.sym b∧r (Tm.sym b) < r (Tm.sym a))∨(Tm.sym a = Tm.sym b∧∃ m,m < Tm.room (Tm.sym a)∧(∀ l,l < m→Tm.kid a l = Tm.kid b l)∧Tm.Gt r (Tm.kid a m) (Tm.kid b m)))):=by
 constructor
 ·intro h
  cases h with
  | eq _ _ m hm e=>exact .inl ⟨m,hm,.inl e⟩
  | sub _ _ m hm h=>exact .inl ⟨m,hm,.inr h⟩
  | rk _ _ ha hb hall hne hr=>exact .inr ⟨ha,hb,hall,.inl ⟨hne,hr⟩⟩
  | lex _ _ m ha hs hall hm hl hk=>exact .inr ⟨ha,by omega,hall,.inr ⟨hs,m,hm,hl,hk⟩⟩
 ·rintro (⟨m,hm,e | h⟩ | ⟨ha,hb,hall,⟨hne,hr⟩ | ⟨hs,m,hm,hl,hk⟩⟩)
  ·exact .eq a b m hm e
  ·exact .sub a b m hm h
  ·exact .rk a b ha hb hall hne hr
  ·exact .lex a b m ha hs hall hm hl hk
end Go.Proofs.YtglohanbpjaieaaGreat
namespace Go.Proofs.YtglohanbpjaieaaGreat
open Go.Proofs Go.RowKit Go.Shelf Go.Maps
def NZ (w':World) (e:Ending) (Bs lo hi:Nat):Option nT→Prop
 | none=>e = .returned (.bool false)
 | some m=>e = .returned (.bool true)∧Ch w' Bs lo hi m
theorem aW.cell {n m:Nat} {a b:World} (h:aW n m a b) {p:Addr} (h1:p.block < n) (h2:p.block≠m):b.cell? p = a.cell? p:=World.cell?_of_block (h.block p.block h1 h2)
theorem dA {n m:Nat} {a b:World} (h:aW n m a b) (d:Nat):aW n m a (b.drewN d):=⟨h.os,h.tape,h.output,h.size,h.block⟩
theorem N7 {lo hi Bs P T:Nat} (s:Int) (v:Value) (ts:List Int) (w:World) (m:nT) (h8:-8≤s) (hs:s < 0) (hN:Node w P s v) (hhi:hi≤w.heap.size) (hlo:Bs < lo) (OH:Bs < w.heap.size) (hT:bY lo hi w T ts) (ht:ts.length≤30) (hF:Ch w Bs lo hi m) :
 Calls Tryz.prog 128 #[ptr P,ptr T,ptr Bs] w fun e w'=>aW w.heap.size Bs w w'∧NZ w' e Bs lo hi (Tm.fitGo ts [s] 0 m):=by
 obtain ⟨j,rfl⟩:∃ j:Nat,s = -1 - (j:Int):=⟨(-1 - s).toNat,by omega⟩;have hj:j < 8:=by omega
 have Vt:(j:Int) < 8:=by omega
 have hn0:=hN.cell0;have Vg:=Tm.jb hT.run;obtain ⟨hf,hc⟩:=hF j hj;have hsub:-(-1 - (j:Int)) - 1 = (j:Int):=by omega
 rcases hc with ⟨hm,hc⟩ | ⟨zs,X,hm,hc,hTX,hz⟩
 ·have hgo:Tm.fitGo ts [-1 - (j:Int)] 0 m = some (upd m (-1 - (j:Int)) ts):=by
   rw [Tm.fitGo,if_pos hs,hm,if_neg (by simp),Vg,Tm.kC]
  rw [hgo];have hS:=hid (hF.set hj hlo hT ht);clear hgo Vg hm hF hT;go_enter Tryz.func128,Tryz.ntmps128;go_wp2;go_ret;exact ⟨aW.jg (dz w Bs j (ptr T)) (Nat.le_refl _),rfl,hS.out⟩
 ·have hF1:=E5 w hTX (by omega) hhi
  have hF2:∀ W,Below w.heap.size w W→Calls Tryz.prog 129 #[ptr T] W fun e w'=>∃ v,e = .returned v∧New W.heap.size w' v ts∧Below W.heap.size W w':=fun W hW=>E5 W (hT.under hW hhi) (by omega) (by have:=hW.size;omega)
  have Zb:=hid (fun W (hW:Below w.heap.size w W)=>hF.keep hW OH hhi);have HF2:=hid hF2;have hgo:Tm.fitGo ts [-1 - (j:Int)] 0 m = if zs = ts then some m else none:=by
   rw [Tm.fitGo,if_pos hs,hm,Vg];by_cases e:zs = ts
   ·subst e;rw [if_neg (by simp),if_pos rfl,Tm.kC,UJ hm]
   ·rw [if_pos (by simp [e]),if_neg e]
  generalize Tm.fitGo ts [-1 - (j:Int)] 0 m = r at hgo ⊢;have Hr:=hid hgo;have Hsb:Hid (dK zs ts = decide (zs = ts)):=rfl;clear hgo Vg hm hF hT hTX hF2;go_enter Tryz.func128,Tryz.ntmps128;go_wp2_with (first
   | (go_at_call_of 129 (ptr X);refine hF1.mono ?_;clear hF1;rintro e w1 ⟨v1,rfl,hN1,hB1⟩;obtain ⟨a1,c1,rfl,hI1,_⟩:=New.ints hN1)
   | (go_at_call_of 129 (ptr T);refine (HF2.out _ hB1).mono ?_;rintro e w2 ⟨v2,rfl,eH,hB2⟩;obtain ⟨a2,c2,rfl,hI2,_⟩:=New.ints eH;have hB3:=hB1.trans (hB2.mono hB1.size))
   | (go_at_call 25;refine (nO zs ts a1 a2 c1 c2 _ ((hI1.below hB2).mono hB2.size) hI2 (by unfold maxLen;omega)).mono ?_;rintro e w3 ⟨rfl,hB4⟩;have gq:=hB3.trans (hB4.mono hB3.size)))
  go_ret;refine ⟨aW.of_below gq,?_⟩;rw [Hr.out];by_cases e:zs = ts
  ·rw [if_pos e];exact ⟨fG (by rw [Hsb.out];simp [e]),Zb.out _ gq⟩
  ·rw [if_neg e];exact fG (by rw [Hsb.out];simp [e])
theorem bY.open {lo hi:Nat} {W:World} {X:Nat} {zs:List Int} (h:bY lo hi W X zs):∃ (s:Int) (a:Option Addr) (c:Nat) (Xs:List Nat) (df:List (List Int)),zs = s :: df.flatten∧lo≤X∧X < hi∧Node W X s (.slice a Xs.length c)∧Xs.length = Tm.room s∧df.length = Xs.length ∧
 (∀ j,j < Xs.length→∃ b off,a = some ⟨b,off,none⟩∧lo≤b∧b < hi∧W.cell? ⟨b,off+j,none⟩ = some (ptr (Xs[j]?.getD 0)))∧∀ j,j < Xs.length→bY lo hi W (Xs[j]?.getD 0) (df[j]?.getD []):=by
 cases h with
 | mk X s v Xs df h1 h2 h3 h4 h5 h6 h7 =>
  obtain ⟨a,c,rfl,h8⟩:=h4;exact ⟨s,a,c,Xs,df,rfl,h1,h2,h3,h5,h6,h8,h7⟩
theorem N8 {lo hi Bs:Nat} {W:World} {P:Nat} {ps:List Int} (h:bY lo hi W P ps):(∀ x∈ps,Tm.known x = true)→∀ (T:Nat) (ts:List Int) (w:World) (m:nT),(∀ k,lo≤k→k < hi→w.heap[k]? = W.heap[k]?)→hi≤w.heap.size→Bs < lo→Bs < w.heap.size →
 bY lo hi w T ts→ts.length≤30→Ch w Bs lo hi m →
 Calls Tryz.prog 128 #[ptr P,ptr T,ptr Bs] w fun e w'=>aW w.heap.size Bs w w'∧NZ w' e Bs lo hi (Tm.fitGo ts ps 0 m):=by
 induction h with
 | mk P s v Xs E8 hP1 hP2 hN hPt hr hl hTs ih =>
  intro hkn T ts w m hw hhi hlo OH hT ht hF;have hN':Node w P s v:=(hw P hP1 hP2).trans hN;by_cases hs:s < 0
  ·have hX0:E8 = []:=List.eq_nil_of_length_eq_zero (by rw [hl,hr,Tm.zJ hs])
   rw [hX0,List.flatten_nil];exact N7 s v ts w m (Tm.iK (hkn s (by simp))) hs hN' hhi hlo OH hT ht hF
  ·obtain ⟨a,c,rfl,hPc⟩:=hPt
   have hn0:=hN'.cell0;obtain ⟨u,a2,c2,Ys,qU,rfl,hT1,Bu,hNT,hrT,hlT,hTc,hTT⟩:=hT.open;have hu0:=hNT.cell0;have hs':¬ (s:Int) < 0:=hs;by_cases qh:u = s
   ·subst qh
    have hnu:(u != u) = false:=by simp
    have hstart:Hid (Tm.fitGo (u :: qU.flatten) (u :: E8.flatten) 0 m = Tm.fitGo (u :: qU.flatten) (E8.drop 0).flatten (1+(qU.take 0).flatten.length) m):=by
     show _ = _;rw [Tm.fitGo,if_neg hs,if_pos (by simp)];simp
    have hX2:(Xs.length:Int)≤2:=by have:=Tm.room_le u;omega
    have IH:=hid ih;have HTs:=hid hTs;have HPc:=hid hPc;have HTc:=hid hTc;have HTT:=hid hTT;have HN:=hid hN';have HNT:=hid hNT;have HW:=hid hw;have Hkn:=hid hkn;have Hl:=hid hl;have HlT:=hid hlT;have HXY:Hid (Ys.length = Xs.length):=by show _ = _;omega
    have HF:=hid hF;have Hlen:Hid ((u :: qU.flatten).length≤30):=ht;clear ih hTs hPc hTc hTT hN hN' hNT hw hkn hl hlT hF hT ht hr hrT;go_enter Tryz.func128,Tryz.ntmps128;go_wp2;go_quiet (fail)
    go_wp2;go_loopw [8] (fun i wr=>∃ (k:Nat) (mk:nT),k≤Xs.length∧i = .int .i64 (k:Int)∧Hid (Tm.fitGo (u :: qU.flatten) (u :: E8.flatten) 0 m = Tm.fitGo (u :: qU.flatten) (E8.drop k).flatten (1+(qU.take k).flatten.length) mk)∧Hid (Ch wr Bs lo hi mk)∧aW w.heap.size Bs w wr) (fun i _=>Xs.length - (intOf i).toNat)
    case atStart=>exact ⟨0,m,Nat.zero_le _,rfl,hstart,HF.out.keep (below_drewN (Below.refl _ _) _) OH hhi,dA (aW.refl _ _ _) _⟩
    case round =>
     obtain ⟨k,mk,hk,rfl,hgo,Zb,hK⟩:=hrel;have kr:Node wr P u (.slice a Xs.length c):=(hK.block P (by omega) (by omega)).trans HN.out;have hn1:=kr.cell1;have adu:Node wr T u (.slice a2 Ys.length c2):=(hK.block T (by omega) (by omega)).trans HNT.out;have hu1:=adu.cell1;by_cases hlt:k < Xs.length
     ·have hlt':(k:Int) < (Xs.length:Int):=by omega
      have adv:k < Ys.length:=by have:=HXY.out;omega
      have ajG:(k:Int) < (Ys.length:Int):=by omega
      obtain ⟨b,off,rfl,hb1,hb2,hcell⟩:=HPc.out k hlt;obtain ⟨b',off',rfl,hb1',hb2',hcell'⟩:=HTc.out k adv;have hck:wr.cell? ⟨b,off+k,none⟩ = some (ptr (Xs[k]?.getD 0)):=(World.cell?_of_block (a:=⟨b,off+k,none⟩) ((hK.block b (by omega) (by omega)).trans (HW.out b hb1 hb2))).trans hcell;have WQ:wr.cell? ⟨b',off'+k,none⟩ = some (ptr (Ys[k]?.getD 0)):=(World.cell?_of_block (a:=⟨b',off'+k,none⟩) (hK.block b' (by omega) (by omega))).trans hcell';have Za:=(HTT.out k adv).keep (W':=wr) (Nat.le_refl _) (Nat.le_refl _) fun q h1 h2=>hK.block q (by omega) (by omega)
      have hPk:=(HTs.out k hlt).run;have hst:=hid (Tm.UI (s:=u) (E8:=E8) (qU:=qU) (j:=k) mk (by have:=Hl.out;omega) (by have:=Hl.out;have:=HlT.out;have:=HXY.out;omega) hPk Za.run);have ahw:=sK (df:=qU) (k:=k) (by have:=HlT.out;omega);have hcall:=IH.out k hlt (fun x hx=>Hkn.out x (List.mem_cons_of_mem _ (List.mem_flatten.2 ⟨E8[k]?.getD [],by rw [List.getElem?_eq_getElem (by have:=Hl.out;omega)];exact List.getElem_mem _,hx⟩)))
       (Ys[k]?.getD 0) (qU[k]?.getD []) (wr.drewN 1) mk (fun q h1 h2=>(hK.block q (by omega) (by omega)).trans (HW.out q h1 h2)) (by have:=hK.size;exact Nat.le_trans hhi this) hlo (by have:=hK.size;exact Nat.lt_of_lt_of_le OH this) (Za.keep (Nat.le_refl _) (Nat.le_refl _) fun _ _ _=>rfl) (by have:=Hlen.out;simp only [List.length_cons] at this;omega) (Zb.out.keep (below_drewN (Below.refl _ _) _) (by have:=hK.size;exact Nat.lt_of_lt_of_le OH this) (Nat.le_trans hhi hK.size))
      clear hcell hcell' Za hPk ahw kr adu;cases hres:Tm.fitGo (qU[k]?.getD []) (E8[k]?.getD []) 0 mk with
      | none =>
       rw [hres] at hcall;have hend:Hid (Tm.fitGo (u :: qU.flatten) (u :: E8.flatten) 0 m = none):=by show _ = _;rw [hgo.out,hst.out,hres];rfl
       clear hst hgo hres;generalize Xs[k]?.getD 0 = X1 at *;generalize Ys[k]?.getD 0 = Y1 at *;go_wp2;go_region_held3 (fun w'=>w'.cell? ⟨P,1,none⟩ = some (.slice (some ⟨b,off,none⟩) Xs.length c)∧w'.cell? ⟨T,1,none⟩ = some (.slice (some ⟨b',off',none⟩) Ys.length c2)∧w'.cell? ⟨b,off+k,none⟩ = some (ptr X1)∧w'.cell? ⟨b',off'+k,none⟩ = some (ptr Y1)) (first | assumption | exact ⟨hn1,hu1,hck,WQ⟩) (first
        | (go_at_call 128;refine hcall.mono ?_;clear hcall;rintro e w1 ⟨hK1,rfl⟩;have hS1:w1.cell? ⟨P,1,none⟩ = some (.slice (some ⟨b,off,none⟩) Xs.length c)∧w1.cell? ⟨T,1,none⟩ = some (.slice (some ⟨b',off',none⟩) Ys.length c2)∧w1.cell? ⟨b,off+k,none⟩ = some (ptr X1)∧w1.cell? ⟨b',off'+k,none⟩ = some (ptr Y1):=⟨(hK1.cell (p:=⟨P,1,none⟩) (by exact Nat.lt_of_lt_of_le hP2 (Nat.le_trans hhi hK.size)) (by show P≠Bs;omega)).trans hn1,(hK1.cell (p:=⟨T,1,none⟩) (by exact Nat.lt_of_lt_of_le Bu (Nat.le_trans hhi hK.size)) (by show T≠Bs;omega)).trans hu1,(hK1.cell (p:=⟨b,off+k,none⟩) (by exact Nat.lt_of_lt_of_le hb2 (Nat.le_trans hhi hK.size)) (by show b≠Bs;omega)).trans hck,(hK1.cell (p:=⟨b',off'+k,none⟩) (by exact Nat.lt_of_lt_of_le hb2' (Nat.le_trans hhi hK.size)) (by show b'≠Bs;omega)).trans WQ⟩))
       all_goals (
        go_wp2;go_ret;exact ⟨(dA hK 1).trans (aW.mono hK1 hK.size),by rw [hend.out];rfl⟩)
      | some m' =>
       rw [hres] at hcall;have hend:Hid (Tm.fitGo (u :: qU.flatten) (u :: E8.flatten) 0 m = Tm.fitGo (u :: qU.flatten) (E8.drop (k+1)).flatten (1+(qU.take (k+1)).flatten.length) m'):=by show _ = _;rw [hgo.out,hst.out,hres];rfl
       clear hst hgo hres;generalize Xs[k]?.getD 0 = X1 at *;generalize Ys[k]?.getD 0 = Y1 at *;go_wp2;go_region_held3 (fun w'=>w'.cell? ⟨P,1,none⟩ = some (.slice (some ⟨b,off,none⟩) Xs.length c)∧w'.cell? ⟨T,1,none⟩ = some (.slice (some ⟨b',off',none⟩) Ys.length c2)∧w'.cell? ⟨b,off+k,none⟩ = some (ptr X1)∧w'.cell? ⟨b',off'+k,none⟩ = some (ptr Y1)) (first | assumption | exact ⟨hn1,hu1,hck,WQ⟩) (first
        | (go_at_call 128;refine hcall.mono ?_;clear hcall;rintro e w1 ⟨hK1,rfl,hF1⟩;have hS1:w1.cell? ⟨P,1,none⟩ = some (.slice (some ⟨b,off,none⟩) Xs.length c)∧w1.cell? ⟨T,1,none⟩ = some (.slice (some ⟨b',off',none⟩) Ys.length c2)∧w1.cell? ⟨b,off+k,none⟩ = some (ptr X1)∧w1.cell? ⟨b',off'+k,none⟩ = some (ptr Y1):=⟨(hK1.cell (p:=⟨P,1,none⟩) (by exact Nat.lt_of_lt_of_le hP2 (Nat.le_trans hhi hK.size)) (by show P≠Bs;omega)).trans hn1,(hK1.cell (p:=⟨T,1,none⟩) (by exact Nat.lt_of_lt_of_le Bu (Nat.le_trans hhi hK.size)) (by show T≠Bs;omega)).trans hu1,(hK1.cell (p:=⟨b,off+k,none⟩) (by exact Nat.lt_of_lt_of_le hb2 (Nat.le_trans hhi hK.size)) (by show b≠Bs;omega)).trans hck,(hK1.cell (p:=⟨b',off'+k,none⟩) (by exact Nat.lt_of_lt_of_le hb2' (Nat.le_trans hhi hK.size)) (by show b'≠Bs;omega)).trans WQ⟩))
       all_goals (
        go_wp2;go_roundw
        case rel=>exact ⟨k+1,m',by omega,by go_num,hend,hF1,(dA hK 1).trans (aW.mono hK1 hK.size)⟩
        case measure=>simp [intOf];omega)
     ·obtain rfl:k = Xs.length:=by omega
      go_wp2;go_ret;refine ⟨hK,?_⟩;rw [hgo.out,← Hl.out,List.drop_length,List.flatten_nil,Tm.kC];exact ⟨rfl,Zb.out⟩
   ·have hnu:(s != u) = true:=by simp;exact fun e=>qh e.symm
    have hgo:Hid (Tm.fitGo (u :: qU.flatten) (s :: E8.flatten) 0 m = none):=by
     show _ = _;rw [Tm.fitGo,if_neg hs,if_neg (by simpa using qh)]
    clear ih hTs hPc hTc hTT qh;go_enter Tryz.func128,Tryz.ntmps128;go_wp2;go_quiet (fail)
    go_wp2;go_ret;exact ⟨dA (aW.refl _ _ _) _,by rw [hgo.out];rfl⟩
theorem kK (p t:List Int) (ap at':Option Addr) (cp ct:Nat) (w:World) (hP:Ints w.heap.size w ap p) (hT:Ints w.heap.size w at' t) :
 Calls Tryz.prog 39 #[.slice ap p.length cp,.slice at' t.length ct] w fun e w'=>e = .returned (.int .i64 (Tm.cK p t))∧w' = w:=by
 have h1:=kE p ap cp w hP;have h2:=kE t at' ct w hT;by_cases he:Tm.err p = 0
 ·have hf:Tm.cK p t = Tm.err t:=by
   simp only [Tm.cK,Tm.firstErr,he,if_true];by_cases h:Tm.err t = 0 <;> simp [h]
  rw [hf];rw [he] at h1;clear hf he hP hT;generalize Tm.err t = q at *;go_enter Tryz.func39,Tryz.ntmps39;go_wp2_with (first
   | (go_at_call_of 14 (Value.slice ap p.length cp);refine h1.mono ?_;rintro e w ⟨rfl,rfl⟩)
   | (go_at_call_of 14 (Value.slice at' t.length ct);refine h2.mono ?_;rintro e w ⟨rfl,rfl⟩))
  go_ret;exact ⟨rfl,rfl⟩
 ·have hf:Tm.cK p t = Tm.err p:=by simp [Tm.cK,Tm.firstErr,he]
  rw [hf];have hne:(Tm.err p != 0) = true:=by simp [he]
  clear hf he hP hT h2;generalize Tm.err p = q at *;go_enter Tryz.func39,Tryz.ntmps39;go_wp2_with (first
   | (go_at_call 14;refine h1.mono ?_;clear h1;rintro e w ⟨rfl,rfl⟩))
  go_ret;exact ⟨rfl,rfl⟩
abbrev pO:Obj:=.cells #[.pointer none,.pointer none,.pointer none,.pointer none,.pointer none,.pointer none,.pointer none,.pointer none] 159
theorem Ch.start (w:World) (lo hi:Nat):Ch (w.alloc pO) w.heap.size lo hi (fun _=>none):=fun v hv=>by
 have hnew:=World.alloc_heap_new w pO;refine ⟨by simp only [World.frozen?];rw [hnew];simp,.inl ⟨rfl,(aM hnew v).trans ?_⟩⟩;match v,hv with
 | 0,_=>rfl
 | 1,_=>rfl
 | 2,_=>rfl
 | 3,_=>rfl
 | 4,_=>rfl
 | 5,_=>rfl
 | 6,_=>rfl
 | 7,_=>rfl
theorem Oa (p t:List Int) (hp:Tm.err p = 0) (ht:Tm.err t = 0) (w w1 w2:World) (hT1:bY (w.heap.size+1) w1.heap.size w1 (w.heap.size+1) p) (hB1:Below (w.heap.size+1) (w.alloc pO) w1) (Bu:bY w1.heap.size w2.heap.size w2 w1.heap.size t) (hB2:Below w1.heap.size w1 w2) :
 Calls Tryz.prog 128 #[ptr (w.heap.size+1),ptr w1.heap.size,ptr w.heap.size] w2 fun e w'=>aW w2.heap.size w.heap.size w2 w'∧NZ w' e w.heap.size (w.heap.size+1) w2.heap.size (Tm.fit p t):=by
 have hs1:=hB1.size;have hs2:=hB2.size;simp at hs1;have hP:bY (w.heap.size+1) w2.heap.size w2 (w.heap.size+1) p:=(hT1.under hB2 (Nat.le_refl _)).wide (Nat.le_refl _) hs2;have hB:Below (w.heap.size+1) (w.alloc pO) w2:=hB1.trans (hB2.mono hs1);exact N8 hP (fun x hx=>by have:=Tm.dH hp;rw [List.all_eq_true] at this;exact this x hx) w1.heap.size t w2 (fun _=>none) (fun _ _ _=>rfl) (Nat.le_refl _) (by omega) (by omega) (Bu.wide (by omega) (Nat.le_refl _)) (Tm.aI ht)
  (fun v hv=>by
    obtain ⟨e1,e2⟩:=Ch.start w (w.heap.size+1) w2.heap.size v hv;refine ⟨by rw [← e1];simp only [World.frozen?,hB.block w.heap.size (by omega)],.inl ⟨rfl,?_⟩⟩;rcases e2 with ⟨_,e2⟩ | ⟨zs,X,e2,_⟩
    ·exact (hB.cell (p:=⟨w.heap.size,v,none⟩) (by show w.heap.size < _;omega)).trans e2
    ·cases e2)
theorem ET (p t:List Int) (ap at':Option Addr) (cp ct:Nat) (w:World) (hp:Tm.err p = 0) (ht:Tm.err t = 0) (hP:Ints w.heap.size w ap p) (hT:Ints w.heap.size w at' t) (h1:p.length≤cp∧cp≤maxLen) (h2:t.length≤ct∧ct≤maxLen) :
 Calls Tryz.prog 112 #[.slice ap p.length cp,.slice at' t.length ct] w fun e w'=>∃ v,e = .returned (.tuple #[v,.bool (Tm.fit p t).isSome])∧dG w.heap.size w' v (Tm.fitOut (Tm.fit p t))∧Below w.heap.size w w':=by
 have hB0:Below w.heap.size w (w.alloc pO):=(Below.refl _ _).alloc (Nat.le_refl _) _;have hs0:(w.alloc pO).heap.size = w.heap.size+1:=by simp
 have jw:=pJ p ap cp (w.alloc pO) hp h1.1 h1.2 ((hP.below hB0).mono hB0.size);rw [hs0] at jw;have hC2:=hid (fun W (hW:Below w.heap.size w W)=>pJ t at' ct W ht h2.1 h2.2 ((hT.below hW).mono hW.size));have MG:=hid (fun w1 w2 a b c d=>Oa p t hp ht w w1 w2 a b c d);clear hP hT hp ht h1 h2;cases hf:Tm.fit p t with
 | none =>
  rw [hf] at MG;clear hf;simp only [Option.isSome_none];go_enter Tryz.func112,Tryz.ntmps112;go_wp2_with (first
   | (go_at_call_of 81 (Value.slice ap p.length cp);refine jw.mono ?_;clear jw;rintro e w1 ⟨rfl,hB1,hT1⟩;have hB3:=hB0.trans (hB1.mono (by omega)))
   | (go_at_call_of 81 (Value.slice at' t.length ct);refine (hC2.out _ hB3).mono ?_;rintro e w2 ⟨rfl,hB2,Bu⟩;have hB4:=hB3.trans (hB2.mono hB3.size))
   | (go_at_call 128;refine (MG.out _ _ hT1 hB1 Bu hB2).mono ?_;rintro e w3 ⟨hK,rfl⟩;have gq:=hB4.trans ((hK.mono hB4.size).below (Nat.le_refl _))))
  go_ret2
  exact ⟨_,rfl,dG.nil _ _,gq⟩
 | some m =>
  rw [hf] at MG;clear hf;simp only [Option.isSome_some];go_enter Tryz.func112,Tryz.ntmps112;go_wp2_with (first
   | (go_at_call_of 81 (Value.slice ap p.length cp);refine jw.mono ?_;clear jw;rintro e w1 ⟨rfl,hB1,hT1⟩;have hB3:=hB0.trans (hB1.mono (by omega)))
   | (go_at_call_of 81 (Value.slice at' t.length ct);refine (hC2.out _ hB3).mono ?_;rintro e w2 ⟨rfl,hB2,Bu⟩;have hB4:=hB3.trans (hB2.mono hB3.size))
   | (go_at_call 128;refine (MG.out _ _ hT1 hB1 Bu hB2).mono ?_;rintro e w3 ⟨hK,rfl,hFS⟩;have gq:=hB4.trans ((hK.mono hB4.size).below (Nat.le_refl _));have HFS:=hid hFS;clear hFS)
   | (go_at_call 85;refine (sI _).mono ?_;rintro e w4 ⟨v,rfl,hN,Jo⟩;have JV:=gq.trans (Jo.mono gq.size);have hlen:(Tm.gQ 8).length = 8:=Tm.gy 8;obtain ⟨g,c,rfl⟩:∃ g c,v = .slice (some ⟨g,0,none⟩) 8 c:=(by obtain ⟨us,h1,_⟩:=hN;rw [hlen] at h1;exact ownsRow_succ h1)))
  have hg3:w3.heap.size≤g:=by
   obtain ⟨us,h1,_⟩:=hN;exact (World.ownsRow.lt h1 g rfl).1
  have hs1:=hB1.size;rw [hs0] at hs1;have hs2:=hB2.size;have hs3:=hK.size;have HN:=hid hN;clear hN hlen hT1 Bu hC2 MG;go_loopw [8] (fun i wr=>∃ k:Nat,k≤8∧i = .int .i64 (k:Int)∧Hid (dG w.heap.size wr (.slice (some ⟨g,0,none⟩) 8 c) (Tm.gp m k))∧Below w3.heap.size w3 wr) (fun i _=>8 - (intOf i).toNat)
  case atStart=>exact ⟨0,Nat.zero_le _,rfl,by rw [Tm.Gv];exact HN.out.mono gq.size,Jo⟩
  case round =>
   obtain ⟨k,hk,rfl,kr,oH⟩:=hrel;by_cases hlt:k < 8
   ·have hlt':(k:Int) < 8:=by omega
    obtain ⟨_,hc⟩:=HFS.out.keep oH (by omega) hs3 k hlt;rcases hc with ⟨hm,hc⟩ | ⟨zs,X,hm,hc,hTX,hz⟩
    ·have hst:=hid (Tm.Gw hm)
     clear hm;go_wp2;go_roundw
     case rel=>exact ⟨k+1,by omega,by go_num,by rw [hst.out];exact kr.out,oH⟩
     case measure=>simp [intOf];omega
    ·have hst:=hid (Tm.Gx hm)
     have hFl:=E5 wr hTX (by omega) (by have:=oH.size;omega);clear hm hTX;go_wp2_with (first
      | (go_at_call 129;refine hFl.mono ?_;clear hFl;rintro e w5 ⟨u,rfl,We,hBu⟩;obtain ⟨au,cu,rfl,_⟩:=New.ints We;have mV:=hid (kr.out.below hBu);obtain ⟨hg5,x5,hc5,RZ⟩:=Cc mV.out (Tm.ll m k) hlt))
     have hsz:=oH.size;have hsw:=gq.size;go_roundw
     case rel =>
      refine ⟨k+1,by omega,by go_num,?_,?_⟩
      ·rw [hst.out]
       exact mV.out.set (Tm.ll m k).symm (We.mono (by omega)) k
      ·exact (oH.trans (hBu.mono hsz)).setCell (p:=⟨g,k,none⟩) hg3 _
     case measure=>simp [intOf];omega
   ·obtain rfl:k = 8:=by omega
    go_wp2;go_ret2
    exact ⟨_,rfl,kr.out,gq.trans (oH.mono gq.size)⟩
section
attribute [local go_sem] Oper.semAt_some
abbrev mo (zs:List Int):Type:={ k:Nat // k < zs.length }
def Fa (zs:List Int) (x:mo zs):Array Value:=#[.int .i64 (x.1:Int),.int .i64 (Tm.ai zs x.1:Int)]
def placesTo (zs:List Int):Nat→List (mo zs)
 | 0=>[]
 | m+1=>if h:m < zs.length then placesTo zs m++[⟨m,h⟩] else placesTo zs m
theorem nK {zs:List Int} {m:Nat} (h:m < zs.length):placesTo zs (m+1) = placesTo zs m++[⟨m,h⟩]:=by simp [placesTo,h]
theorem p9 (zs:List Int):∀ m,m≤zs.length→(placesTo zs m).length = m:=by
 intro m;induction m with
 | zero=>intro _;rfl
 | succ m ih=>intro h;rw [nK (by omega),List.length_append,ih (by omega)];rfl
theorem QZ (F:Fence) (hF:F = Fence.wide) (n:Nat) (a:Option Addr) (len cap:Nat) (w:World) :
 CallsIn F n Tryz.prog 50 #[.slice a len cap] w fun e w'=>e = .returned (.func (.func 70) #[] #[.pointer (some ⟨w.heap.size,0,none⟩)]) ∧
  w' = w.alloc (.cells #[.slice a len cap] 35):=by
 have hro:F.round = none:=by subst hF;rfl
 have hfn:F.fn 50:=by subst hF;trivial
 refine callsIn_of_wp Tryz.func50 rfl hfn ?_ hro;simp only [Tryz.ntmps50,List.size_toArray,List.length_cons,List.length_nil,Nat.reduceAdd,Nat.reduceSub,Array.replicate_succ,Array.replicate_zero,List.push_toArray,List.append_toArray,List.nil_append,List.cons_append];gi_wp2
 go_ret;exact ⟨rfl,rfl⟩
theorem Ob (F:Fence) (hF:F = Fence.wide) (n l Bt n₀ cap:Nat) (a:Option Addr) (zs:List Int) (hlen:zs.length≤30)
 (J Jx:List (mo zs)→World→Prop) (W:World) (hJ:AbidesFrom W.heap.size J)
 (hY:∀ pre x W,J pre W→pre.length < zs.length→YieldAt F (n - 1) Tryz.prog l (Fa zs x) W fun e W' =>
   (e = .returned (.bool true)∧J (pre++[x]) W'∧Kept n₀ Bt W W')∨(e = .returned (.bool false)∧Jx (pre++[x]) W'))
 (hn₀:n₀≤W.heap.size) (XV:W.cell? ⟨Bt,0,none⟩ = some (.slice a zs.length cap)) (Rz:Bt < W.heap.size) (hI:Ints n₀ W a zs) (h0:J [] W) :
 CallsIn F n Tryz.prog 70 #[.func (.yield l) #[] #[],.pointer (some ⟨Bt,0,none⟩)] W fun e W'=>(∃ v,e = .returned v) ∧
  ((∃ ys,ys = placesTo zs zs.length∧J ys W')∨(∃ pre,True∧Jx pre W')):=by
 obtain ⟨hro,hfn,hdd,jv⟩:=fC hF;clear hF;have Dt:=hfn 70;have Li:=hfn 69;have WR:(zs.length:Int)≤30:=by omega
 have HY:=hid hY;have HI:=hid hI;clear hY hI;refine callsIn_of_wp Tryz.func70 rfl Dt ?_ hro;simp only [Tryz.ntmps70,List.size_toArray,List.length_cons,List.length_nil,Nat.reduceAdd,Nat.reduceSub,Array.replicate_succ,Array.replicate_zero,List.push_toArray,List.append_toArray,List.nil_append,List.cons_append];gi_wp2
 gi_loopw [6] (fun i wr=>∃ m:Nat,m≤zs.length∧i = .int .i64 (m:Int)∧J (placesTo zs m) wr∧wr.heap[Bt]? = W.heap[Bt]?∧Below n₀ W wr∧W.heap.size≤wr.heap.size)
  (fun i _=>zs.length - (intOf i).toNat)
 case atStart=>exact ⟨0,Nat.zero_le _,rfl,h0,rfl,Below.refl _ _,Nat.le_refl _⟩
 case round =>
  obtain ⟨m,hm,rfl,hJs,hT,hnx,hsz⟩:=hrel;have hbt:wr.cell? ⟨Bt,0,none⟩ = some (.slice a zs.length cap):=(World.cell?_of_block (a:=⟨Bt,0,none⟩) hT).trans XV;by_cases hlt:m < zs.length
  ·have hlt':(m:Int) < (zs.length:Int):=by omega
   have h1:=(qV zs hlen a cap m (by omega) wr ((HI.out.below hnx).mono (by omega))).mono (R':=fun e W1=>e = .returned (.int .i64 (Tm.ai zs m:Int))∧YieldAt F (n - 1) Tryz.prog l #[.int .i64 (m:Int),.int .i64 (Tm.ai zs m:Int)] W1 fun e W' =>
    (e = .returned (.bool true)∧J (placesTo zs (m+1)) W'∧Below n₀ W W'∧W'.heap[Bt]? = W.heap[Bt]?∧W.heap.size≤W'.heap.size)∨(e = .returned (.bool false)∧∃ pre,Jx pre W'))
    (fun e W1 ⟨he,hB⟩=>⟨he,by
      have hg:=dx hB;have XW:=hJ _ _ _ none hJs hg (fun r e=>by cases e);refine YieldAt.mono (HY.out _ ⟨m,hlt⟩ W1 XW (by rw [p9 zs m hm];exact hlt)) fun e W2 h=>h.elim (fun ⟨he,hj,hb2,Bu⟩=>.inl ⟨he,?_,?_,?_,?_⟩) (fun ⟨he,hx⟩=>.inr ⟨he,_,hx⟩)
      ·rw [nK hlt];exact hj
      ·exact (hnx.trans (hB.mono (by omega))).trans hb2
      ·exact Bu.trans ((hB.block Bt (by omega)).trans hT)
      ·have:=hB.size;have:=hb2.size;omega⟩)
   have h1':=jv (n:=n - 1) h1;clear h1;gi_wp2_with (first
    | ((try refine ⟨hdd _,?_⟩);gi_at_call 69;refine h1'.mono ?_;clear h1';rintro e W1 ⟨rfl,fn,tmps,assign,body,hy,hR⟩)
    | ((try refine ⟨hdd _,?_⟩);refine hR.mono ?_;clear hR;rintro e W2 (⟨rfl,hJ2,hb2,Bu,hs2⟩ | ⟨rfl,hx2⟩)))
   ·exact ⟨⟨m+1,by omega,by go_num,hJ2,Bu,hb2,hs2⟩,by simp [intOf];omega⟩
   ·obtain ⟨pre,hx2⟩:=hx2
    refine bodyPost_ret (results_none rfl _ _ _) rfl ?_;exact ⟨⟨_,rfl⟩,.inr ⟨pre,trivial,hx2⟩⟩
  ·obtain rfl:m = zs.length:=by omega
   have hlt':¬ (zs.length:Int) < (zs.length:Int):=by omega
   gi_wp2
   go_end0
   exact ⟨⟨_,rfl⟩,.inl hJs⟩
theorem Jf (F:Fence) (hF:F = Fence.wide) (n Bt n₀ cap:Nat) (a:Option Addr) (zs:List Int) (hlen:zs.length≤30) (w:World) (hn₀:n₀≤w.heap.size) (Rz:Bt < w.heap.size)
 (XV:w.cell? ⟨Bt,0,none⟩ = some (.slice a zs.length cap)) (hI:Ints n₀ w a zs) :
 SeqStopsK F n Tryz.prog 70 #[.pointer (some ⟨Bt,0,none⟩)] (Fa zs) (Kept n₀ Bt)
  (fun ys=>ys = placesTo zs zs.length) (fun _=>True) zs.length w:=fun l J Jx W hW hJ _ hY h0 =>
 Ob F hF n l Bt n₀ cap a zs hlen J Jx W hJ hY (by have:=hW.size;omega) ((hW.cell (p:=⟨Bt,0,none⟩) Rz).trans XV) (by have:=hW.size;omega) (hI.below (hW.mono hn₀)) h0
end
end Go.Proofs.YtglohanbpjaieaaGreat
