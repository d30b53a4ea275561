/-
  Parts of the proof: PRef0, PRef1, PRef2, PRef3, Clo19.
-/
import Derived.Test.YtglohanbpjaieaaGreatBru26
set_option maxHeartbeats 4000000
set_option maxRecDepth 100000
namespace Go.Proofs.YtglohanbpjaieaaGreat
open Go.Proofs Go.RowKit Go.Shelf Go.Maps
theorem Tm.pK {ss:List (List Int)} (h:Tm.dO ss = 0):∀ t:List Int,(∀ s∈t,-8≤s)→t.length≤(Tm.applied ss t).length:=by
 intro t;induction t with
 | nil=>intro _;exact Nat.zero_le _
 | cons s l ih =>
  intro h8;rw [Tm.fK,List.length_append,List.length_cons];have h1:=ih fun q hq=>h8 q (by simp [hq])
  have h2:1≤(Tm.piece ss s).length:=by
   unfold Tm.piece;by_cases hs:s < 0
   ·rw [if_pos hs]
    obtain ⟨hl,hf⟩:=Tm.kv h;have:=h8 s (by simp)
    have:=Tm.bM (Tm.jS hf (-1 - s).toNat (by omega))
    omega
   ·rw [if_neg hs];simp
  omega
theorem Tm.Ce {zs us:List Int} {k:Nat} {s:Int} (h:s∈Tm.put zs k us):s∈zs∨s∈us:=by
 unfold Tm.put at h;rcases List.mem_append.1 h with h | h
 ·rcases List.mem_append.1 h with h | h
  ·exact .inl (List.mem_of_mem_take h)
  ·exact .inr h
 ·exact .inl (List.mem_of_mem_drop h)
theorem Tm.gX {t:List Int} (h:Tm.err t = 0) {s:Int} (hs:s∈t):-8≤s∧s < 6:=by
 have h2:=Tm.dH h;rw [List.all_eq_true] at h2;have:=h2 s hs
 exact ⟨Tm.iK this,Tm.gK this⟩
theorem Tm.Pj {val:List (List Int)} {L1 R1 R2:List Int} {m:Nat} (hs:Tm.dO val = 0) (e1:Tm.err L1 = 0) (eR:Tm.err R1 = 0) (e2:Tm.err R2 = 0) (hm:m < L1.length) :
 ((Tm.applied val (Tm.put L1 m R2)).length≤30∧(Tm.applied val R1).length≤30∧Tm.fD val L1 R1 (m:Int) R2 = 0∧(Tm.gm val L1 R1 (m:Int) R2).1.length = (Tm.applied val (Tm.put L1 m R2)).length∧(Tm.gm val L1 R1 (m:Int) R2).1++(Tm.gm val L1 R1 (m:Int) R2).2 = Tm.plain (Tm.applied val (Tm.put L1 m R2)++Tm.applied val R1)) ∨
 ((30 < (Tm.applied val (Tm.put L1 m R2)).length∨30 < (Tm.applied val R1).length)∧Tm.fD val L1 R1 (m:Int) R2 = 2):=by
 have hin:eZ (m:Int) 0 ((L1.length:Int) - 1) = true:=by rw [mX];omega
 have hge:=Tm.pK hs (Tm.put L1 m R2) fun s h=>by
  rcases Tm.Ce h with h | h
  ·exact (Tm.gX e1 h).1
  ·exact (Tm.gX e2 h).1
 have hpe:Tm.fZ L1 (m:Int) R2 = if 30 < (Tm.put L1 m R2).length then 2 else 0:=by
  unfold Tm.fZ;rw [if_pos e1,if_pos e2,if_pos hin];rfl
 by_cases h1:30 < (Tm.put L1 m R2).length
 ·rw [if_pos h1] at hpe
  refine .inr ⟨.inl (by omega),?_⟩;unfold Tm.fD;rw [if_neg (by rw [hpe];decide),hpe]
 ·rw [if_neg h1] at hpe
  have hpv:Tm.dX L1 (m:Int) R2 = Tm.put L1 m R2:=by unfold Tm.dX;rw [if_pos hpe];rfl
  have ep:=Tm.OY e1 e2 hm (by omega);have hae:Tm.bf val (Tm.put L1 m R2) = if 30 < (Tm.applied val (Tm.put L1 m R2)).length then 2 else 0:=by unfold Tm.bf;rw [if_pos hs,if_pos ep]
  have hbe:Tm.bf val R1 = if 30 < (Tm.applied val R1).length then 2 else 0:=by unfold Tm.bf;rw [if_pos hs,if_pos eR]
  by_cases h2:30 < (Tm.applied val (Tm.put L1 m R2)).length
  ·rw [if_pos h2] at hae
   refine .inr ⟨.inl h2,?_⟩;unfold Tm.fD;rw [if_pos hpe,hpv,if_neg (by rw [hae];decide),hae]
  ·rw [if_neg h2] at hae
   by_cases h3:30 < (Tm.applied val R1).length
   ·rw [if_pos h3] at hbe
    refine .inr ⟨.inr h3,?_⟩;unfold Tm.fD;rw [if_pos hpe,hpv,if_pos hae,hbe]
   ·rw [if_neg h3] at hbe
    have hz:Tm.fD val L1 R1 (m:Int) R2 = 0:=by
     unfold Tm.fD;rw [if_pos hpe,hpv,if_pos hae,hbe]
    have v1:Tm.bJ val (Tm.put L1 m R2) = Tm.applied val (Tm.put L1 m R2):=by unfold Tm.bJ;rw [if_pos hae]
    have v2:Tm.bJ val R1 = Tm.applied val R1:=by unfold Tm.bJ;rw [if_pos hbe]
    have hv:Tm.gm val L1 R1 (m:Int) R2 = (Tm.plain (Tm.applied val (Tm.put L1 m R2)),Tm.fu (Tm.applied val (Tm.put L1 m R2)) (Tm.applied val R1)):=by
     unfold Tm.gm;rw [if_pos hz,hpv,v1,v2]
    refine .inl ⟨by omega,by omega,hz,?_,?_⟩
    ·rw [hv];exact Tm.bH _ _ _
    ·rw [hv];exact Sn.both _ _
def dY (base:Nat) (W:World) (a:Option Addr) (zs:List Int):Prop:=∀ j,j < zs.length→∃ b off,a = some ⟨b,off,none⟩∧base≤b∧(∃ cs p,W.heap[b]? = some (.cells cs 3 p))∧W.cell? ⟨b,off+j,none⟩ = some (.int .i64 (zs[j]?.getD 0))
theorem dY.ints {base:Nat} {W:World} {a:Option Addr} {zs:List Int} (h:dY base W a zs):Ints W.heap.size W a zs:=fun j hj=>by
 obtain ⟨b,off,e,_,⟨cs,p,hb⟩,hc⟩:=h j hj;exact ⟨b,off,e,(Array.getElem?_eq_some_iff.1 hb).1,hc⟩
theorem dY.of {base:Nat} {W:World} {v:Value} {zs:List Int} (h:New base W v zs):∃ a c,v = .slice a zs.length c∧dY base W a zs∧zs.length≤c∧c≤maxLen:=by
 rcases h.2 with ⟨rfl,hn⟩ | ⟨g,cap,cur,rfl,hb,hg,h1,h2,h3,h4⟩
 ·exact ⟨none,0,by rw [hn],fun j hj=>by omega,by omega,by unfold maxLen;omega⟩
 ·refine ⟨_,cap,rfl,fun j hj=>⟨g,0,rfl,hb,⟨cur,_,hg⟩,?_⟩,h1,h2⟩
  have:=World.ownsRow.cellAt (xs:=zs.map (Value.int .i64)) h j (by omega)
  rw [Nat.zero_add,this];simp [hj]
theorem dY.keep {base:Nat} {W W':World} {a:Option Addr} {zs:List Int} (h:dY base W a zs) (hk:∀ b,base≤b→(∃ cs p,W.heap[b]? = some (.cells cs 3 p))→W'.heap[b]? = W.heap[b]?):dY base W' a zs:=fun j hj=>by
 obtain ⟨b,off,e,hb,hc,hcell⟩:=h j hj;refine ⟨b,off,e,hb,?_,(World.cell?_of_block (a:=⟨b,off+j,none⟩) (hk b hb hc)).trans hcell⟩;obtain ⟨cs,p,hc'⟩:=hc;exact ⟨cs,p,(hk b hb ⟨cs,p,hc'⟩).trans hc'⟩
theorem dY.below {base:Nat} {W W':World} {a:Option Addr} {zs:List Int} (h:dY base W a zs) (hB:Below W.heap.size W W'):dY base W' a zs:=h.keep fun b _ ⟨_,_,hc⟩=>hB.block b (Array.getElem?_eq_some_iff.1 hc).1
theorem dY.mono {base base':Nat} {W:World} {a:Option Addr} {zs:List Int} (h:dY base W a zs) (hb:base'≤base):dY base' W a zs:=fun j hj=>by
 obtain ⟨b,off,e,h1,r⟩:=h j hj;exact ⟨b,off,e,by omega,r⟩
def gG (base:Nat) (W:World) (v:Value) (ps:ah):Prop :=
 ∃ us:List Value,W.ownsRow base 40 2 v ps.length us∧∀ j,j < ps.length→∃ aL cL aR cR,us[j * 2]? = some (.slice aL (ps[j]?.getD ([],[])).1.length cL)∧us[j * 2+1]? = some (.slice aR (ps[j]?.getD ([],[])).2.length cR)∧dY base W aL (ps[j]?.getD ([],[])).1∧dY base W aR (ps[j]?.getD ([],[])).2∧(ps[j]?.getD ([],[])).1.length≤cL∧cL≤maxLen∧(ps[j]?.getD ([],[])).2.length≤cR∧cR≤maxLen
theorem gG.nil (base:Nat) (W:World):gG base W (.slice none 0 0) []:=⟨[],World.ownsRow_nil _ _ _ _,fun j hj=>by simp at hj⟩
theorem gG.below {base:Nat} {W W':World} {v:Value} {ps:ah} (h:gG base W v ps) (hB:Below W.heap.size W W'):gG base W' v ps:=by
 obtain ⟨us,h1,h2⟩:=h;refine ⟨us,eD h1 fun q hq=>hB.block q (World.ownsRow.lt h1 q hq).2,fun j hj=>?_⟩;obtain ⟨aL,cL,aR,cR,a,b,c,d,r⟩:=h2 j hj;exact ⟨aL,cL,aR,cR,a,b,c.below hB,d.below hB,r⟩
theorem gG.mono {base base':Nat} {W:World} {v:Value} {ps:ah} (h:gG base W v ps) (hb:base'≤base):gG base' W v ps:=by
 obtain ⟨us,h1,h2⟩:=h;refine ⟨us,⟨h1.1,h1.2.elim .inl (fun ⟨g,cap,cur,e1,e2,e3⟩=>.inr ⟨g,cap,cur,e1,Nat.le_trans hb e2,e3⟩)⟩,fun j hj=>?_⟩;obtain ⟨aL,cL,aR,cR,a,b,c,d,r⟩:=h2 j hj;exact ⟨aL,cL,aR,cR,a,b,c.mono hb,d.mono hb,r⟩
theorem gG.at {base:Nat} {W:World} {v:Value} {ps:ah} (h:gG base W v ps):∃ a cap,v = .slice a ps.length cap∧aJ W.heap.size W a ps∧ps.length≤cap∧cap≤maxLen:=by
 obtain ⟨us,h1,h2⟩:=h;have hl:us.length = ps.length * 2:=h1.1;rcases h1.2 with ⟨rfl,hn⟩ | ⟨g,cap,cur,rfl,hb,hgb,q1,q2,_⟩
 ·refine ⟨none,0,by rw [hn],fun k hk=>by omega,by omega,by unfold maxLen;omega⟩
 ·refine ⟨_,cap,rfl,fun j hj=>?_,q1,q2⟩
  obtain ⟨a1,c1,a2,c2,p1,p2,i1,i2,m1,LZ,m2,L6⟩:=h2 j hj;have cc:=fun k hk=>World.ownsRow.cellAt h1 k hk
  exact ⟨g,0,rfl,(Array.getElem?_eq_some_iff.1 hgb).1,a1,c1,a2,c2,by rw [Nat.zero_add,cc _ (by omega),p1],by rw [Nat.zero_add,cc _ (by omega),p2],i1.ints,i2.ints,m1,LZ,m2,L6⟩
theorem gG.snoc {base:Nat} {w w':World} {v v':Value} {ps:ah} {aL aR:Option Addr} {cL cR:Nat} {t t2:List Int} (hg:w.grownBy w' v.ownBlock) (h1:dY base w aL t) (h2:dY base w aR t2) (c1:t.length≤cL) (c2:cL≤maxLen) (c3:t2.length≤cR) (c4:cR≤maxLen)
 {us:List Value} (qh:w.ownsRow base 40 2 v ps.length us) (hcl:∀ j,j < ps.length→∃ aL cL aR cR,us[j * 2]? = some (.slice aL (ps[j]?.getD ([],[])).1.length cL)∧us[j * 2+1]? = some (.slice aR (ps[j]?.getD ([],[])).2.length cR)∧dY base w aL (ps[j]?.getD ([],[])).1∧dY base w aR (ps[j]?.getD ([],[])).2∧(ps[j]?.getD ([],[])).1.length≤cL∧cL≤maxLen∧(ps[j]?.getD ([],[])).2.length≤cR∧cR≤maxLen)
 (hown:w'.ownsRow base 40 2 v' (ps.length+1) (us++[.slice aL t.length cL,.slice aR t2.length cR])):gG base w' v' (ps++[(t,t2)]):=by
 have zi:us.length = ps.length * 2:=qh.1;have hk:∀ b,base≤b→(∃ cs p,w.heap[b]? = some (.cells cs 3 p))→w'.heap[b]? = w.heap[b]?:=fun b _ ⟨cs,p,hb⟩=>hg.block b (Array.getElem?_eq_some_iff.1 hb).1 fun e=>by
  obtain ⟨cur,h⟩:=oF qh e.symm;rw [hb] at h;simp only [Option.some.injEq,Obj.cells.injEq] at h;exact absurd h.2.1 (by decide)
 refine ⟨us++[.slice aL t.length cL,.slice aR t2.length cR],by simpa using hown,fun j hj=>?_⟩;by_cases hjl:j < ps.length
 ·obtain ⟨y,yc,y',ry,q1,q2,n1,n2,r⟩:=hcl j hjl
  rw [List.getElem?_append_left hjl,List.getElem?_append_left (by omega),List.getElem?_append_left (by omega)];exact ⟨y,yc,y',ry,q1,q2,n1.keep hk,n2.keep hk,r⟩
 ·have Eh:j = ps.length:=by simp at hj;omega
  subst Eh;rw [List.getElem?_append_right (Nat.le_refl _),List.getElem?_append_right (by omega),List.getElem?_append_right (by omega),zi];exact ⟨aL,cL,aR,cR,by simp,by simp,by simpa using h1.keep hk,by simpa using h2.keep hk,by simpa using c1,c2,by simpa using c3,c4⟩
theorem Tm.Wt {t:List Int} {k:Nat} (h:k < t.length):(Tm.others (t.take k)++t.drop k)[k]?.getD 0 = t[k]?.getD 0:=by
 have hl:(Tm.others (t.take k)).length = k:=by rw [Tm.iI,List.length_take];omega
 rw [List.getElem?_append_right (by omega),hl,Nat.sub_self,List.getElem?_drop,Nat.add_zero]
theorem Tm.Wu {t:List Int} {k:Nat} (h:k < t.length):(Tm.others (t.take k)++t.drop k).set k (Tm.JC (t[k]?.getD 0)) = Tm.others (t.take (k+1))++t.drop (k+1):=by
 have hl:(Tm.others (t.take k)).length = k:=by rw [Tm.iI,List.length_take];omega
 rw [List.set_append_right _ _ (by omega),hl,Nat.sub_self,Tm.qo h,List.drop_eq_getElem_cons h,List.set_cons_zero,List.append_assoc];rfl
theorem Tm.Uf {t:List Int} {k:Nat} (h:k < t.length) (hs:0≤t[k]?.getD 0):Tm.others (t.take (k+1))++t.drop (k+1) = Tm.others (t.take k)++t.drop k:=by
 have ho:Tm.JC (t[k]?.getD 0) = t[k]?.getD 0:=by unfold Tm.JC;rw [if_neg (by omega)]
 rw [Tm.qo h,ho,List.drop_eq_getElem_cons h,List.append_assoc,List.getElem?_eq_getElem h];rfl
theorem Tm.Pk (t:List Int) (k:Nat) (h:k≤t.length):(Tm.others (t.take k)++t.drop k).length = t.length:=by
 rw [List.length_append,Tm.iI,List.length_take,List.length_drop];omega
theorem rW (t:List Int) (at':Option Addr) (ct:Nat) (w:World) (ht:t.length≤30) (h0:0 < t.length) (h8:∀ k,k < t.length→-100≤t[k]?.getD 0) (hT:Ints w.heap.size w at' t) :
 Calls Tryz.prog 115 #[.slice at' t.length ct] w fun e w'=>∃ v,e = .returned v∧New w.heap.size w' v (Tm.others t)∧Below w.heap.size w w':=by
 have hlen:(t.length:Int)≤30:=by omega
 obtain ⟨b,off,rfl,hb,hc⟩:=hT.at h0;have hl:New w.heap.size (w.alloc (.cells #[] 3)) (.slice (some ⟨w.heap.size,0,none⟩) 0 0) []:=New.lit w.heap.size w [] (Nat.le_refl _) (by unfold maxLen;simp);have hB0:Below w.heap.size w (w.alloc (.cells #[] 3)):=(Below.refl _ _).alloc (Nat.le_refl _) _;have HT:=hid hT;have H8:=hid h8;clear hT hc h8;go_enter Tryz.func115,Tryz.ntmps115;go_wp2_with (at_builtin;go_loud (refine aK _ rfl _ _ rfl w.heap.size _ [] rfl hl _ t ct rfl (fun e=>by cases e) ((HT.out.below hB0).mono hB0.size) (by simp;omega) hB0.size ?_);intro v1 W1 hN1 hB1;obtain ⟨g,c,rfl,_⟩:=New.XB hN1 (by simpa using h0))
 have hB2:=hB0.trans hB1;clear hB0 hB1 hl;simp only [List.nil_append] at *;have hgl:=hN1.Mv;go_loopw [4] (fun i wr=>∃ k:Nat,k≤t.length∧i = .int .i64 (k:Int)∧Hid (New w.heap.size wr (.slice (some ⟨g,0,none⟩) t.length c) (Tm.others (t.take k)++t.drop k))∧Hid (Below w.heap.size w wr)) (fun i _=>t.length - (intOf i).toNat)
 case atStart=>exact ⟨0,Nat.zero_le _,rfl,by simpa [Tm.others,Hid] using hN1,hB2⟩
 case round =>
  obtain ⟨k,hk,rfl,kr,oH⟩:=hrel;by_cases hlt:k < t.length
  ·have hlt':(k:Int) < (t.length:Int):=by omega
   obtain ⟨hcs,hfs⟩:=New.atG kr.out (Tm.Pk t k hk).symm;have hck:=hcs k hlt;have VT:=hfs k;rw [Tm.Wt hlt] at hck;have h8k:=H8.out k hlt;clear hcs hfs;by_cases hs:t[k]?.getD 0 < 0
   ·have hst:=hid (Tm.Wu hlt)
    have ho:Hid (Tm.JC (t[k]?.getD 0) = t[k]?.getD 0 - 4):=by show _ = _;unfold Tm.JC;rw [if_pos hs]
    generalize t[k]?.getD 0 = s at *;go_wp2;go_roundw
    case rel =>
     refine ⟨k+1,by omega,by go_num,?_,oH.out.setCell (p:=⟨g,k,none⟩) hgl.1 _⟩;have h:=kr.out.set (Tm.Pk t k hk).symm k (s - 4);rw [← ho.out,hst.out,ho.out] at h;exact h
    case measure=>simp [intOf];omega
   ·have hs':decide (t[k]?.getD 0 < 0) = false:=by simpa using hs
    have hst:=hid (Tm.Uf hlt (by omega));clear hs;generalize t[k]?.getD 0 = s at *;go_wp2;go_roundw
    case rel=>exact ⟨k+1,by omega,by go_num,by rw [hst.out];exact kr,oH⟩
    case measure=>simp [intOf];omega
  ·obtain rfl:k = t.length:=by omega
   have h:=kr.out;rw [List.take_length,List.drop_length,List.append_nil] at h;have H:=hid h;clear h;go_wp2;go_ret;exact ⟨_,rfl,H.out,oH.out⟩
theorem dY.drop {base:Nat} {W:World} {b off:Nat} {zs:List Int} (h:dY base W (some ⟨b,off,none⟩) zs) (k:Nat):dY base W (some ⟨b,off+k,none⟩) (zs.drop k):=fun j hj=>by
 rw [List.length_drop] at hj;obtain ⟨b',off',e,h1,h2,h3⟩:=h (k+j) (by omega);cases e;exact ⟨b,off+k,rfl,h1,h2,by rw [List.getElem?_drop,show off+k+j = off+(k+j) from by omega];exact h3⟩
theorem dY.take {base:Nat} {W:World} {a:Option Addr} {zs:List Int} (h:dY base W a zs) (k:Nat):dY base W a (zs.take k):=fun j hj=>by
 rw [List.length_take] at hj;obtain ⟨b',off',e,h1,h2,h3⟩:=h j (by omega);exact ⟨b',off',e,h1,h2,by rw [List.getElem?_take_of_lt (by omega)];exact h3⟩
theorem gG.acN {base:Nat} {W W':World} {v:Value} {ps:ah} (h:gG base W v ps) (hk:∀ q,q < W.heap.size→W'.heap[q]? = W.heap[q]?):gG base W' v ps:=by
 obtain ⟨us,h1,h2⟩:=h;refine ⟨us,eD h1 fun q hq=>hk q (World.ownsRow.lt h1 q hq).2,fun j hj=>?_⟩;obtain ⟨aL,cL,aR,cR,a,b,c,d,r⟩:=h2 j hj;have hi:∀ b,base≤b→(∃ cs p,W.heap[b]? = some (.cells cs 3 p))→W'.heap[b]? = W.heap[b]?:=fun b _ ⟨_,_,hc⟩=>hk b (Array.getElem?_eq_some_iff.1 hc).1
 exact ⟨aL,cL,aR,cR,a,b,c.keep hi,d.keep hi,r⟩
theorem New.past {base acO:Nat} {CP V w12:World} {v vq:Value} {zs:List Int} {l:ah} (hN:New base CP v zs) (hV:∀ q,q < CP.heap.size→V.heap[q]? = CP.heap[q]?) (hQ:gG acO V vq l) (hg:V.grownBy w12 vq.ownBlock):New base w12 v zs :=
 eD hN fun q hq=>by
  obtain ⟨us,qh,_⟩:=hQ;obtain ⟨cur,hc⟩:=oF hN hq;have hc':=hc;rw [← hV q (Array.getElem?_eq_some_iff.1 hc).1] at hc';refine (hg.block q (Array.getElem?_eq_some_iff.1 hc').1 fun e=>?_).trans (hV q (Array.getElem?_eq_some_iff.1 hc).1);obtain ⟨alF,h2⟩:=oF qh e.symm;rw [hc'] at h2;simp only [Option.some.injEq,Obj.cells.injEq] at h2;exact absurd h2.2.1 (by decide)
theorem zF {ops:Array Oper} {o:Oper} {a:Act} {K:Act→World→Prop} {Q:Exit→Act→World→Prop} {E:Prop} (w:World) (hgd:o.guard = none) (s x:Operand)
 (ho:o.op = .call { callee:=.builtin .append,args:=#[s,x],argTypes:=#[24,24] }) (base:Nat) (v:Value) (ps:ah) (hs:a.eval s = v) (hN:gG base w v ps)
 (B:Nat) (aL aR:Option Addr) (t t2:List Int) (n1 n2 cL cR:Nat) (hn1:n1 = t.length) (hn2:n2 = t2.length) (hx:a.eval x = .slice (some ⟨B,0,none⟩) 1 1) (hB:w.heap[B]? = some (.cells #[.slice aL n1 cL,.slice aR n2 cR] 40)) (h1:dY base w aL t) (h2:dY base w aR t2) (c1:t.length≤cL) (c2:cL≤maxLen) (c3:t2.length≤cR) (c4:cR≤maxLen) (hlen:ps.length≤1000000) (hbase:base≤w.heap.size)
 (h:∀ g c' w',gG base w' (.slice (some ⟨g,0,none⟩) (ps.length+1) c') (ps++[(t,t2)])→w.grownBy w' v.ownBlock→Below base w w'→K (a.put o.dst (.slice (some ⟨g,0,none⟩) (ps.length+1) c')) w') :
 if Region.wanted o (yielded ops a.tmps) = true then Oper.wp Tryz.prog o a w K Q else E:=by
 subst hn1 hn2;obtain ⟨i0,hi,hz0,hz1,hz2⟩:=info_parts Tryz.mH;obtain ⟨us,qh,hcl⟩:=hN;refine step_append_lies w hgd s x 24 ho base 40 i0 (.agg #[.slice none 0 0,.slice none 0 0]) 2 48 Tryz.mr hi hz0 hz1 hz2 rfl (by decide) v ps.length us hs qh ⟨B,0,none⟩ 1 1 [.slice aL t.length cL,.slice aR t2.length cR] hx (by simp)
  (by intro j z hj
      match j,hj with
      | 0,hj=>simp at hj;subst hj;rw [Go.WideShapes.add_plain];simpa using (aM hB 0)
      | 1,hj=>simp at hj;subst hj;rw [Go.WideShapes.add_plain];simpa using (aM hB 1))
  (by intro u hu;simp at hu;rcases hu with rfl | rfl <;> rfl) (by decide) (by unfold maxLen;omega) (by omega) hbase w.heap.size rfl ?_
 intro g c' w' hown hg _ _;exact h g c' w' (gG.snoc hg h1 h2 c1 c2 c3 c4 qh hcl hown) hg ((Below.refl base w).grown hg hbase fun k e=>(World.ownsRow.lt qh k e).1)
theorem Tm.Ug {val:List (List Int)} (h:Tm.dO val = 0) {t u:List Int}:∀ s∈Tm.applied val t++Tm.applied val u,-8≤s:=by
 have key:∀ t:List Int,∀ s∈Tm.applied val t,-8≤s:=by
  intro t;induction t with
  | nil=>intro s hs;cases hs
  | cons q l ih =>
   intro s hs;rw [Tm.fK] at hs;rcases List.mem_append.1 hs with hs | hs
   ·unfold Tm.piece at hs
    by_cases hq:q < 0
    ·rw [if_pos hq] at hs
     obtain ⟨hl,hf⟩:=Tm.kv h;by_cases hi:(-1 - q).toNat < val.length
     ·exact (Tm.gX (Tm.jS hf _ hi) hs).1
     ·rw [List.getElem?_eq_none (by omega)] at hs
      cases hs
    ·rw [if_neg hq] at hs
     simp only [List.mem_cons,List.not_mem_nil,or_false] at hs;omega
   ·exact ih s hs
 intro s hs;rcases List.mem_append.1 hs with h | h
 ·exact key t s h
 ·exact key u s h
def acP (L1 R1 L2 R2:List Int) (i j:Int) (w:World) (e:Ending) (w':World):Prop:=Below w.heap.size w w'∧∃ er ps v,Tm.iO L1 R1 (Tm.others L2) (Tm.others R2) (Tm.jd L1 i j) er ps∧e = .returned (.tuple #[v,.int .i64 er])∧gG w.heap.size w' v ps
theorem KF (L1 R1 L2 R2:List Int) (rs:aH) (i j:Nat) (hi:i < rs.length) (hj:j < rs.length) (a:Option Addr) (cap:Nat) (w:World) (hr:rs.length≤8) (hR:aJ w.heap.size w a rs) (eqi:rs[i]?.getD ([],[]) = (L1,R1)) (eqj:rs[j]?.getD ([],[]) = (L2,R2)) (eL:Tm.err L1 = 0) (eR:Tm.err R1 = 0) (OV:Tm.err L2 = 0) (Iw:Tm.err R2 = 0) (eO:Tm.err (Tm.others L2) = 0) (eO2:Tm.err (Tm.others R2) = 0) :
 Calls Tryz.prog 88 #[.slice a rs.length cap,.int .i64 (i:Int),.int .i64 (j:Int)] w fun e w'=>acP L1 R1 L2 R2 (i:Int) (j:Int) w e w':=by
 have hi':(i:Int) < (rs.length:Int):=by omega
 have hj':(j:Int) < (rs.length:Int):=by omega
 have hr':(rs.length:Int)≤8:=by omega
 obtain ⟨b,off,rfl,hb,aL,cL,aR,cR,g1,g2,g3,g4,g5,g6,g7,g8⟩:=hR i hi;obtain ⟨b',off',e',hb',Rp,OW,Rq,Rs,p1,p2,p3,p4,p5,p6,p7,p8⟩:=hR j hj;cases e';rw [eqi] at g1 g2 g3 g4 g5 g7;rw [eqj] at p1 p2 p3 p4 p5 p7;simp only at g1 g2 g3 g4 g5 g7 p1 p2 p3 p4 p5 p7;obtain ⟨ba,oa,rfl⟩:∃ ba oa,aL = some ⟨ba,oa,none⟩:=by obtain ⟨x,y,e,_⟩:=g3.at (Tm.bM eL);exact ⟨x,y,e⟩
 have lL:=Tm.aI eL;have lR:=Tm.aI eR;have lL2:=Tm.aI OV;have lR2:=Tm.aI Iw;have lL':(L1.length:Int)≤30:=by omega
 obtain ⟨W1,hW1⟩:∃ W1,w.alloc (.cells #[.slice (some ⟨ba,oa,none⟩) L1.length cL,.slice aR R1.length cR] 54) = W1:=⟨_,rfl⟩;have hB1:Below w.heap.size w W1:=by rw [← hW1];exact (Below.refl _ w).alloc (Nat.le_refl _) _
 have hs1:W1.heap.size = w.heap.size+1:=by rw [← hW1];simp
 have bx:bZ W1 w.heap.size 54 (.slice (some ⟨ba,oa,none⟩) L1.length cL) (.slice aR R1.length cR):=by rw [← hW1];exact bZ.new w 54 _ _
 have Hbx:=hid bx;have Wj:=hid (fun V (hV:Below W1.heap.size W1 V)=>(rW L2 Rp OW V lL2 (Tm.bM OV) (fun k hk=>by have:=(Tm.lH OV k hk);omega) ((p3.below (hB1.trans (hV.mono hB1.size))).mono (Nat.le_trans hB1.size hV.size))).mono (fun e w' ⟨v,h1,h2,h3⟩=>(⟨v,h1,h2.mono (Nat.le_trans hB1.size hV.size),h3,hV.trans (h3.mono hV.size)⟩:∃ v,e = Ending.returned v∧New w.heap.size w' v (Tm.others L2)∧Below V.heap.size V w'∧Below W1.heap.size W1 w')));have hO2:=hid (fun V (hV:Below W1.heap.size W1 V)=>(rW R2 Rq Rs V lR2 (Tm.bM Iw) (fun k hk=>by have:=(Tm.lH Iw k hk);omega) ((p4.below (hB1.trans (hV.mono hB1.size))).mono (Nat.le_trans hB1.size hV.size))).mono (fun e w' ⟨v,h1,h2,h3⟩=>(⟨v,h1,h2.mono (Nat.le_trans hB1.size hV.size),h3,hV.trans (h3.mono hV.size)⟩:∃ v,e = Ending.returned v∧New w.heap.size w' v (Tm.others R2)∧Below V.heap.size V w'∧Below W1.heap.size W1 w')));have hS:Hid (∀ V,Below W1.heap.size W1 V→V.cell? ⟨b,off+j * 2,none⟩ = some (.slice Rp L2.length OW)∧V.cell? ⟨b,off+j * 2+1,none⟩ = some (.slice Rq R2.length Rs)):=fun V hV'=>by
  have hV:=hB1.trans (hV'.mono hB1.size);exact ⟨(hV.cell (p:=⟨b,off+j * 2,none⟩) hb).trans p1,(hV.cell (p:=⟨b,off+j * 2+1,none⟩) hb).trans p2⟩
 have hBW:=Below.refl W1.heap.size W1;have hS0:=hS.out _ hBW;have HW1:=hid hW1;have HB1:=hid hB1;have hI1:Hid (∀ V,Below W1.heap.size W1 V→Ints V.heap.size V (some ⟨ba,oa,none⟩) L1):=fun V hV=>(g3.below (hB1.trans (hV.mono hB1.size))).mono (Nat.le_trans hB1.size hV.size)
 have hI2:Hid (∀ V,Below W1.heap.size W1 V→Ints V.heap.size V aR R1):=fun V hV=>(g4.below (hB1.trans (hV.mono hB1.size))).mono (Nat.le_trans hB1.size hV.size)
 have hbx:Hid (∀ V,Below W1.heap.size W1 V→V.cell? ⟨w.heap.size,0,none⟩ = some (.slice (some ⟨ba,oa,none⟩) L1.length cL)∧V.cell? ⟨w.heap.size,1,none⟩ = some (.slice aR R1.length cR)):=fun V hV=>⟨(hV.cell (p:=⟨w.heap.size,0,none⟩) (by show w.heap.size < _;omega)).trans Hbx.out.cell0,(hV.cell (p:=⟨w.heap.size,1,none⟩) (by show w.heap.size < _;omega)).trans Hbx.out.cell1⟩
 clear hR eqi eqj hW1 bx hB1 p3 p4 p5 p6 p7 p8 hs1;go_enter Tryz.func88,Tryz.ntmps88;go_wp2;rw [HW1.out];go_region_held3 (fun w'=>w'.cell? ⟨b,off+j * 2,none⟩ = some (.slice Rp L2.length OW)∧w'.cell? ⟨b,off+j * 2+1,none⟩ = some (.slice Rq R2.length Rs)) (first | assumption | exact hS0)
  (first
    | (go_at_call_of 115 (Value.slice Rp L2.length OW);refine (Wj.out _ (by first | exact hBW | exact below_drewN hBW 1 | exact hBR | exact below_drewN hBR 1)).mono ?_;rintro e wL ⟨vL,rfl,nL,bL,hBL⟩;obtain ⟨xL,kL,rfl,_⟩:=New.ints nL;have sL:=hS.out _ hBL;(try have NLR:=hid (And.intro nL (New.below nR bL)));(try have BF:=hid hBL))
    | (go_at_call_of 115 (Value.slice Rq R2.length Rs);refine (hO2.out _ (by first | exact hBW | exact below_drewN hBW 1 | exact hBL | exact below_drewN hBL 1)).mono ?_;rintro e wR ⟨vR,rfl,nR,bR,hBR⟩;obtain ⟨xR,kR,rfl,_⟩:=New.ints nR;have sR:=hS.out _ hBR;(try have NLR:=hid (And.intro (New.below nL bR) nR));(try have BF:=hid hBR)))
 all_goals (
  have qL:Hid ((Tm.others L2).length≤kL∧kL≤maxLen):=by obtain ⟨_,_,e,_,h1,h2⟩:=New.ints nL;cases e;exact ⟨h1,h2⟩
  have qR:Hid ((Tm.others R2).length≤kR∧kR≤maxLen):=by obtain ⟨_,_,e,_,h1,h2⟩:=New.ints nR;cases e;exact ⟨h1,h2⟩
  clear sL sR nL nR hBL hBR bL bR hS0 hS Wj hO2 hBW p1 p2;go_wp2;go_loopw [8,12] (fun v x wr=>∃ (k:Nat) (l:ah),k≤L1.length∧x = .int .i64 (k:Int)∧Hid (Tm.jP L1 R1 (Tm.others L2) (Tm.others R2) (Tm.jd L1 (i:Int) (j:Int)) k l)∧Hid (gG W1.heap.size wr v l)∧Hid (Below W1.heap.size W1 wr)∧Hid (New w.heap.size wr (.slice xL (Tm.others L2).length kL) (Tm.others L2))∧Hid (New w.heap.size wr (.slice xR (Tm.others R2).length kR) (Tm.others R2))) (fun _ x _=>L1.length - (intOf x).toNat)
  case atStart=>exact ⟨0,[],Nat.zero_le _,rfl,.zero,gG.nil _ _,(by first | exact BF | exact below_drewN BF.out 1),NLR.out.1,NLR.out.2⟩
  case round =>
   obtain ⟨k,l,hk,rfl,XI,hNQ,oH,hNL,hNR⟩:=hrel;obtain ⟨hx0,hx1⟩:=hbx.out _ oH.out;obtain ⟨vq,cq,rfl,_⟩:=hNQ.out.at;by_cases hlt:k < L1.length
   ·have hkl:(k:Int) < (L1.length:Int):=by omega
    obtain ⟨_,_,e,_,hcc⟩:=(hI1.out _ oH.out).at (by omega);cases e;have hck:=hcc k hlt;have hpb:Hid (Tm.jd L1 (i:Int) (j:Int) k = (decide (L1[k]?.getD 0 < 0) || (decide (k = 0) && decide ((i:Int) = (j:Int))))):=rfl;have ep:=hid (Tm.dC eL hlt);clear hcc;generalize L1[k]?.getD 0 = s at hck hpb;by_cases hs:s < 0
    ·have hL':=hid (Tm.jP.pass XI.out (by rw [hpb.out];simp [hs]))
     go_wp2;go_roundw
     case rel=>exact ⟨k+1,l,by omega,by go_num,hL'.out,hNQ,oH,hNL,hNR⟩
     case measure=>simp [intOf];omega
    ·have hs':decide (s < 0) = false:=by simpa using hs
     by_cases hij:i = j
     case' pos =>
      have hij':((i:Int) == (j:Int)) = true:=by simp [hij]
      by_cases hk0:k = 0
      ·have hk0':((k:Int) == 0) = true:=by simp [hk0]
       have hL':=hid (Tm.jP.pass XI.out (by rw [hpb.out];simp [hij,hk0]));clear hij hk0;go_wp2;go_roundw
       case rel=>exact ⟨k+1,l,by omega,by go_num,hL'.out,hNQ,oH,hNL,hNR⟩
       case measure=>simp [intOf];omega
      have hk0':((k:Int) == 0) = false:=by simp;omega
      have Hp:Hid (Tm.jd L1 (i:Int) (j:Int) k = false):=by show _ = _;rw [hpb.out];simp [hs,hk0]
      clear hij hk0 hpb hs
     case' neg =>
      have hij':((i:Int) == (j:Int)) = false:=by simp;omega
      have Hp:Hid (Tm.jd L1 (i:Int) (j:Int) k = false):=by show _ = _;rw [hpb.out];simp [hs];omega
      clear hij hpb hs
     all_goals (
      have Pm:=hid (fun V (hV:Below W1.heap.size W1 V)=>mE L1 (some ⟨ba,oa,none⟩) cL k V (hI1.out V hV) g5 g6 eL hlt);have hmet:=hid (fun (V:World) (B:Nat) (ap:Option Addr) (cp:Nat) (hblk:V.heap[B]? = some (.cells #[.slice ap (Tm.part L1 k).length cp,.slice xL (Tm.others L2).length kL] 40)) h1 h2 h3 h4=>Ph (Tm.part L1 k) (Tm.others L2) ap xL cp kL B V hblk h1 h2 h3 h4 qL.out.1 qL.out.2 ep.out eO);go_wp2_with fail;refine (Pm.out _ oH.out).mono ?_;rintro e w4 ⟨v4,rfl,n4,b4⟩;obtain ⟨x4,k4,rfl,i4,m4,m4'⟩:=New.ints n4;have hB4:=hid (oH.out.trans (b4.mono oH.out.size));have nL4:=hid (New.below hNL.out b4);have nR4:=hid (New.below hNR.out b4);have nQ4:=hid (hNQ.out.below b4);have hal:Hid (Below w4.heap.size w4 (w4.alloc (.cells #[.slice x4 (Tm.part L1 k).length k4,.slice xL (Tm.others L2).length kL] 40))):=(Below.refl _ _).alloc (Nat.le_refl _) _;have iL4:Hid (Ints w4.heap.size w4 xL (Tm.others L2)):=by obtain ⟨_,_,e,h,_⟩:=New.ints nL4.out;cases e;exact h
      have hmc:=hid (hmet.out _ w4.heap.size x4 k4 (World.alloc_heap_new w4 _) ((i4.below hal.out).mono hal.out.size) ((iL4.out.below hal.out).mono hal.out.size) m4 m4');clear Pm hmet i4 n4 b4 hNL hNR hNQ m4 m4';go_wp2_with fail;refine hmc.out.mono ?_;rintro e w5 ⟨b5,er,is,val,v5,EK,rfl,hS5⟩;clear hmc;have b5':=hid (hal.out.trans (b5.mono hal.out.size));have gq:=hid (hB4.out.trans (b5'.out.mono hB4.out.size));have nL5:=hid (New.below nL4.out b5'.out);have nR5:=hid (New.below nR4.out b5'.out);have nQ5:=hid (nQ4.out.below b5'.out);obtain ⟨x5,k5,rfl,hSub,_⟩:=dG.subs hS5;have XJ:=hid EK;have HSub:=hid hSub;clear hS5 hSub hal iL4 nL4 nR4 nQ4 b5 b5' hB4;have hbF:=hid (HB1.out.trans (gq.out.mono HB1.out.size));by_cases her:er = 0
      ·subst her
       cases is with
       | false =>
        have hL':=hid (Tm.jP.no XI.out Hp.out EK);clear EK HSub;go_wp2;go_roundw
        case rel=>exact ⟨k+1,l,by omega,by go_num,hL'.out,nQ5,gq,nL5,nR5⟩
        case measure=>simp [intOf];omega
       | true =>
        obtain ⟨hsub,_,_,_,_⟩:=Tm.Gb EK;obtain ⟨h8,hfe⟩:=Tm.kv hsub;have hsh:=ow.Tt hfe;have Zk:=hid (Tm.Pj (val:=val) (m:=k) hsub eL eR eO2 hlt);have BM:=hid (fun h=>Tm.jP.yes XI.out Hp.out XJ.out h);have hbad:Hid (Tm.fD val L1 R1 (k:Int) (Tm.others R2) = 2→Tm.iO L1 R1 (Tm.others L2) (Tm.others R2) (Tm.jd L1 (i:Int) (j:Int)) 2 []):=fun h=>.inr ⟨⟨by decide,k,l,hlt,XI.out,Hp.out,.inr ⟨val,XJ.out,h⟩⟩,rfl⟩
        have hpl:(Tm.put L1 k (Tm.others R2)).length≤60:=by
         have h1:=Tm.sw (zs:=L1) (us:=Tm.others R2) hlt;have h2:=Tm.aI eO2;have h3:=Tm.dw L1 k;omega
        have hp8:Hid (∀ q,q < (Tm.put L1 k (Tm.others R2)).length→-8≤(Tm.put L1 k (Tm.others R2))[q]?.getD 0):=fun q hq=>by
         rw [List.getElem?_eq_getElem hq];rcases Tm.Ce (List.getElem_mem hq) with h | h
         ·exact (Tm.gX eL h).1
         ·exact (Tm.gX eO2 h).1
        have iR5:Hid (Ints w5.heap.size w5 xR (Tm.others R2)):=by obtain ⟨_,_,e,h,_⟩:=New.ints nR5.out;cases e;exact h
        have hput:=hid (Mg L1 (Tm.others R2) (some ⟨ba,oa,none⟩) xR cL kR k w5 (hI1.out _ gq.out) iR5.out g5 g6 eL eO2 hlt);have hap:=hid (fun (V:World) (ad:Option Addr) (ct:Nat) h1 h2=>zy val h8 hsh x5 k5 (Tm.put L1 k (Tm.others R2)) ad ct (by omega) hp8.out V h1 h2);have haq:=hid (fun (V:World) (hV:Below W1.heap.size W1 V) h1=>zy val h8 hsh x5 k5 R1 aR cR (by omega) (Tm.lH eR) V h1 (hI2.out V hV));have hxl:=Tm.jy hsh (Tm.put L1 k (Tm.others R2));have hyl:=Tm.jy hsh R1;have hx0:Hid (0 < (Tm.applied val R1).length):=by
         have:=Tm.pK hsub R1 fun s hs=>(Tm.gX eR hs).1
         have:=Tm.bM eR
         show 0 < _;omega
        have XK:Hid (0 < (Tm.applied val (Tm.put L1 k (Tm.others R2))).length):=by
         have h1:=Tm.pK hsub (Tm.put L1 k (Tm.others R2)) fun s hs=>by
          rcases Tm.Ce hs with h | h
          ·exact (Tm.gX eL h).1
          ·exact (Tm.gX eO2 h).1
         have h2:=Tm.sw (zs:=L1) (us:=Tm.others R2) hlt;have h3:=Tm.bM eO2;show 0 < _;omega
        have hx8:Hid (∀ s∈Tm.applied val (Tm.put L1 k (Tm.others R2))++Tm.applied val R1,-8≤s):=Tm.Ug hsub;have H8:=hid h8;clear EK hsub h8 hfe hsh;generalize Tm.applied val (Tm.put L1 k (Tm.others R2)) = X at *;generalize Tm.applied val R1 = Y at *;generalize Tm.put L1 k (Tm.others R2) = pt at *;have hXI:(X.length:Int)≤2000:=by omega
        have hYI:(Y.length:Int)≤2000:=by omega
        rw [H8.out];obtain ⟨alK,alL⟩:=hbx.out _ gq.out;go_wp2_with fail;refine hput.out.mono ?_;rintro e w6 ⟨v6,rfl,n6,b6⟩;obtain ⟨x6,k6,rfl,i6,_⟩:=New.ints n6;have b6k:=hid b6;have Jo:=hid (gq.out.trans (b6.mono gq.out.size));have S6:=hid ((HSub.out.below b6).mono b6.size);have nL6:=hid (New.below nL5.out b6);have nR6:=hid (New.below nR5.out b6);have nQ6:=hid (nQ5.out.below b6);clear hput n6 HSub nL5 nR5 nQ5 iR5 b6;go_wp2_with fail;refine (hap.out _ _ _ S6.out i6).mono ?_;rintro e w7 ⟨v7,rfl,n7,b7⟩;obtain ⟨x7,k7,rfl,i7,_⟩:=New.ints n7;have JV:=hid (Jo.out.trans (b7.mono Jo.out.size));have S7:=hid ((S6.out.below b7).mono b7.size);have nL7:=hid (New.below nL6.out b7);have nR7:=hid (New.below nR6.out b7);have nQ7:=hid (nQ6.out.below b7);obtain ⟨_,alM⟩:=hbx.out _ JV.out;clear hap n7 i6 S6 nL6 nR6 nQ6;go_wp2_with fail;refine (haq.out _ JV.out S7.out).mono ?_;rintro e w8 ⟨v8,rfl,n8,b8⟩;obtain ⟨x8,k8,rfl,i8,_⟩:=New.ints n8;have rJ:=hid (JV.out.trans (b8.mono JV.out.size));have nL8:=hid (New.below nL7.out b8);have nR8:=hid (New.below nR7.out b8);have nQ8:=hid (nQ7.out.below b8);have YQ:=hid ((i7.below b8).mono b8.size);have i8':=hid i8;clear haq n8 i7 i8 S7 nL7 nR7 nQ7;rcases Zk.out with ⟨h1,h2,h3,h4,h5⟩ | ⟨hbig,h3⟩
        ·have h1':(X.length:Int)≤30:=by omega
         have h2':(Y.length:Int)≤30:=by omega
         have hY0:=hx0.out;have H3:=hid (BM.out h3);have H4:=hid h4;have hXp:0 < X.length:=by
          have h:=XK.out;omega
         obtain ⟨b7',o7',rfl,_⟩:=YQ.out.at hXp;obtain ⟨b8',o8',rfl,_⟩:=i8'.out.at hY0;have hl0:Hid (New w8.heap.size (w8.alloc (.cells #[] 3)) (.slice (some ⟨w8.heap.size,0,none⟩) 0 0) []):=New.lit w8.heap.size w8 [] (Nat.le_refl _) (by unfold maxLen;simp);have Jq:Hid (Below w8.heap.size w8 (w8.alloc (.cells #[] 3))):=(Below.refl _ _).alloc (Nat.le_refl _) _;obtain ⟨Z,hZ⟩:∃ Z,X++Y = Z:=⟨_,rfl⟩;have hZl:Z.length = X.length+Y.length:=by rw [← hZ,List.length_append]
         have Wv:=hid (fun (V:World) (ad:Option Addr) (ct:Nat) h=>rU Z ad ct V (by omega) (by omega) (fun q hq=>by rw [List.getElem?_eq_getElem hq];exact hx8.out _ (by rw [hZ];exact List.getElem_mem hq)) h);have Zl:Hid ((Tm.plain Z).length = X.length+Y.length):=by
          show _ = _;unfold Tm.plain;rw [Tm.bH,hZl]
         rw [hZ] at h5;have H5:=hid h5;have HZ:=hid hZ;have HZl:=hid hZl;clear hZ hZl;clear BM hbad h3 h4 h5 hx8 Zk hx0 XK;go_wp2_with (first
          | (at_builtin;refine aK _ rfl _ _ rfl w8.heap.size _ [] rfl hl0.out _ X _ rfl (fun e=>by cases e) ((YQ.out.below Jq.out).mono Jq.out.size) (by simp;omega) Jq.out.size ?_;intro v9 w9 n9 b9;obtain ⟨x9,k9,rfl,_⟩:=New.ints n9;have Uh:=hid (Jq.out.trans b9);rw [List.nil_append] at n9)
          | (at_builtin;refine aK _ rfl _ _ rfl w8.heap.size _ X rfl n9 _ Y _ rfl (fun e=>by cases e) ((i8'.out.below Uh.out).mono Uh.out.size) (by omega) Uh.out.size ?_;intro v10 w10 n10 b10;rw [HZ.out] at n10;obtain ⟨x10,k10,rfl,i10,_⟩:=New.ints n10;have KG:=hid (Uh.out.trans b10))
          | (go_at_call 95;refine (Wv.out _ _ _ i10).mono ?_;rintro e CP ⟨v11,rfl,n11,b11⟩;have EL:=hid (KG.out.trans (b11.mono KG.out.size));obtain ⟨x11,k11,rfl,hir,hk1,hk2⟩:=dY.of n11))
         have hP2:=hid (Zl.out);obtain ⟨g11,agm,e11,_,_⟩:=New.XB n11 (by have:=Zl.out;omega);cases e11;have hV1:Hid ((Tm.gm val L1 R1 (k:Int) (Tm.others R2)).1 = (Tm.plain Z).take X.length):=by show _ = _;rw [← H5.out,← H4.out,List.take_left]
         have hV2:Hid ((Tm.gm val L1 R1 (k:Int) (Tm.others R2)).2 = (Tm.plain Z).drop X.length):=by show _ = _;rw [← H5.out,← H4.out,List.drop_left]
         have QI:=hid (hir.mono (show W1.heap.size≤w10.heap.size from by have h2:=rJ.out.size;have h3:=KG.out.size;omega));have agn:=hid (nQ8.out.below EL.out);have agp:=hid (New.below nL8.out EL.out);have agq:=hid (New.below nR8.out EL.out);have Ui:=hid (rJ.out.trans (EL.out.mono rJ.out.size));have hll:l.length≤1000:=by have:=XI.out.len;omega
         clear n11 hir EL KG Uh Jq b11 b10 n10 n9 i10 b9 nQ8 nL8 nR8 YQ i8' rJ;generalize Tm.plain Z = PZ at *;have acS:(PZ.length:Int)≤(k11:Int):=by omega
         have hPZ:(PZ.length:Int) = (X.length:Int)+(Y.length:Int):=by have:=Zl.out;omega
         have hXP:(X.length:Int)≤(PZ.length:Int):=by omega
         have hXk:(X.length:Int)≤(k11:Int):=by omega
         have hkz:¬ k11 - X.length = 0:=by omega
         have acU:¬ k11 = X.length:=by omega
         have hq1:Hid ((PZ.take X.length).length≤X.length):=by show _≤_;rw [List.length_take];omega
         have hq2:Hid ((PZ.drop X.length).length≤k11 - X.length):=by show _≤_;rw [List.length_drop];omega
         have hdl:Hid (PZ.length - X.length = (PZ.drop X.length).length):=(List.length_drop).symm;have htl:Hid (X.length = (PZ.take X.length).length):=by show _ = _;rw [List.length_take];omega
         have HPZ:=hid hPZ;clear hPZ;have hkm:k11≤9223372036854775807:=hk2;have acV:(k11:Int)≤9223372036854775807:=by omega
         have hnw:W1.heap.size≤CP.heap.size:=Ui.out.size;have hq11:Hid (∀ V:World,V.heap = (CP.alloc (.cells #[.slice (some ⟨g11,0,none⟩) X.length X.length,.slice (some ⟨g11,X.length,none⟩) (PZ.length - X.length) (k11 - X.length)] 40)).heap→gG W1.heap.size V (.slice vq l.length cq) l):=fun V hV=>agn.out.acN fun q hq=>by rw [hV,Below.heap_alloc _ _ _ hq]
         have hblk:Hid (∀ V:World,V.heap = (CP.alloc (.cells #[.slice (some ⟨g11,0,none⟩) X.length X.length,.slice (some ⟨g11,X.length,none⟩) (PZ.length - X.length) (k11 - X.length)] 40)).heap→V.heap[CP.heap.size]? = some (.cells #[.slice (some ⟨g11,0,none⟩) X.length X.length,.slice (some ⟨g11,X.length,none⟩) (PZ.length - X.length) (k11 - X.length)] 40)):=fun V hV=>by rw [hV];exact World.alloc_heap_new CP _
         have acW:Hid (∀ V:World,V.heap = (CP.alloc (.cells #[.slice (some ⟨g11,0,none⟩) X.length X.length,.slice (some ⟨g11,X.length,none⟩) (PZ.length - X.length) (k11 - X.length)] 40)).heap→dY W1.heap.size V (some ⟨g11,0,none⟩) (PZ.take X.length)):=fun V hV=>(QI.out.take X.length).keep fun q _ ⟨_,_,hc⟩=>by rw [hV,Below.heap_alloc _ _ _ (Array.getElem?_eq_some_iff.1 hc).1]
         have acX:Hid (∀ V:World,V.heap = (CP.alloc (.cells #[.slice (some ⟨g11,0,none⟩) X.length X.length,.slice (some ⟨g11,X.length,none⟩) (PZ.length - X.length) (k11 - X.length)] 40)).heap→dY W1.heap.size V (some ⟨g11,X.length,none⟩) (PZ.drop X.length)):=fun V hV=>by
          have h:=QI.out.drop X.length;rw [Nat.zero_add] at h;exact h.keep fun q _ ⟨_,_,hc⟩=>by rw [hV,Below.heap_alloc _ _ _ (Array.getElem?_eq_some_iff.1 hc).1]
         go_region_held3 (fun _=>True) (first | trivial)
          ((refine zF _ (by rfl) _ _ (by rfl) W1.heap.size (.slice vq l.length cq) l (by rfl) (hq11.out _ (by rfl)) CP.heap.size (some ⟨g11,0,none⟩) (some ⟨g11,X.length,none⟩) (PZ.take X.length) (PZ.drop X.length) X.length (PZ.length - X.length) X.length (k11 - X.length) htl.out hdl.out (by rfl) (hblk.out _ (by rfl)) (acW.out _ (by rfl)) (acX.out _ (by rfl)) hq1.out (by unfold maxLen;omega) hq2.out (by unfold maxLen;omega) (by omega) (by simp;omega) ?_;intro g12 c12 w12 n12 Zm b12))
         have agr:=hid (New.past agp.out (V:=(CP.alloc (.cells #[.slice (some ⟨g11,0,none⟩) X.length X.length,.slice (some ⟨g11,X.length,none⟩) (PZ.length - X.length) (k11 - X.length)] 40)).drew) (fun q hq=>Below.heap_alloc _ _ _ hq) (hq11.out _ rfl) Zm);have ags:=hid (New.past agq.out (V:=(CP.alloc (.cells #[.slice (some ⟨g11,0,none⟩) X.length X.length,.slice (some ⟨g11,X.length,none⟩) (PZ.length - X.length) (k11 - X.length)] 40)).drew) (fun q hq=>Below.heap_alloc _ _ _ hq) (hq11.out _ rfl) Zm);have dN:Hid (Below W1.heap.size W1 w12):=(Ui.out.trans (below_drewN ((Below.refl _ _).alloc hnw _) 1)).trans b12;have hPV:Hid (Tm.gm val L1 R1 (k:Int) (Tm.others R2) = (PZ.take X.length,PZ.drop X.length)):=Prod.ext hV1.out hV2.out;clear hq11 hblk acW acX Zm b12;go_wp2;go_roundw
         case rel =>
          have h3:=H3.out;rw [hPV.out] at h3;exact ⟨k+1,_,by omega,by go_num,h3,n12,dN,agr,ags⟩
         case measure=>simp [intOf];omega
        ·have hs:=hid (hbad.out h3)
         clear Zk BM hbad h3;by_cases hb1:30 < X.length
         ·have hb1':(30:Int) < (X.length:Int):=by omega
          clear hbig hb1;go_wp2;go_ret2
          exact ⟨HB1.out.trans (rJ.out.mono HB1.out.size),2,[],_,hs.out,rfl,gG.nil _ _⟩
         ·have hb1':decide ((30:Int) < (X.length:Int)) = false:=by simp;omega
          have hb2':(30:Int) < (Y.length:Int):=by omega
          clear hbig hb1;go_wp2;go_ret2
          exact ⟨HB1.out.trans (rJ.out.mono HB1.out.size),2,[],_,hs.out,rfl,gG.nil _ _⟩
      ·have hs:=hid (show Tm.iO L1 R1 (Tm.others L2) (Tm.others R2) (Tm.jd L1 (i:Int) (j:Int)) er [] from .inr ⟨⟨her,k,l,hlt,XI.out,Hp.out,.inl ⟨is,val,EK⟩⟩,rfl⟩)
       have hne:(er != 0) = true:=by simpa using her
       clear EK her HSub;go_wp2;go_ret2
       exact ⟨hbF.out,er,[],_,hs.out,rfl,gG.nil _ _⟩)
   ·obtain rfl:k = L1.length:=by omega
    go_wp2;go_ret2
    exact ⟨HB1.out.trans (oH.out.mono HB1.out.size),0,l,_,.inl ⟨rfl,XI.out⟩,rfl,hNQ.out.mono HB1.out.size⟩)
theorem Tm.MK (t:List Int):∀ n,Tm.run (Tm.others t) n = Tm.run t n:=by
 induction t with
 | nil=>intro n;rfl
 | cons s l ih =>
  intro n;cases n with
  | zero=>rw [Tm.cZ,Tm.cZ]
  | succ n =>
   show Tm.run (Tm.JC s :: Tm.others l) (n+1) = _;have hr:Tm.room (Tm.JC s) = Tm.room s:=by
    unfold Tm.JC;by_cases hs:s < 0
    ·rw [if_pos hs,Wb.gM hs,Wb.gM (by omega)]
    ·rw [if_neg hs]
   rw [Tm.bU,Tm.bU,hr,ih]
theorem Tm.kz {t:List Int} (h:Tm.err t = 0) (hf:t.any aV = false):Tm.err (Tm.others t) = 0:=by
 refine Tm.oJ (by rw [Tm.iI];exact Tm.aI h) ?_ (by rw [Tm.MK,Tm.iI];exact Tm.eT h);rw [List.all_eq_true];intro s hs;obtain ⟨q,hq,rfl⟩:=List.mem_map.1 hs;obtain ⟨h1,h2⟩:=Tm.gX h hq;have h3:=List.any_eq_false.1 hf q hq;simp only [aV,decide_eq_true_eq] at h3;refine Tm.zf ?_ ?_ <;> (unfold Tm.JC;split <;> omega)
theorem Tm.dQ.bad {ps:ah} {er:Int} {is:Bool} {val:List (List Int)} (h:Tm.dQ ps er is val) (h0:Tm.firstPair ps = 0) (he:er≠0):er = 2:=by
 rcases h with ⟨h1,_⟩ | ⟨_,_,h,_⟩ | ⟨_,_,_,_,h,_⟩ | ⟨_,_,_,_,h,_⟩
 ·exact absurd h0 h1
 ·exact absurd h he
 ·exact absurd h he
 ·exact h
theorem Tm.zn.two {L1 R1 L2 R2:List Int} {pass:Nat→Bool} {e:Int} (h:Tm.zn L1 R1 L2 R2 pass e) (e1:Tm.err L1 = 0) (eR:Tm.err R1 = 0) (e2:Tm.err L2 = 0) (Iw:Tm.err R2 = 0):e = 2:=by
 obtain ⟨h0,m,l,hm,hl,hp,⟨is,val,hs⟩ | ⟨val,hs,he⟩⟩:=h
 ·exact hs.bad (by rw [Tm.kH,Tm.jN];exact ⟨Tm.dC e1 hm,e2⟩) h0
 ·obtain ⟨hsub,_⟩:=Tm.Gb hs
  rcases Tm.Pj (val:=val) hsub e1 eR Iw hm with ⟨_,_,h3,_⟩ | ⟨_,h3⟩
  ·rw [h3] at he;exact absurd he.symm h0
  ·rw [h3] at he;exact he.symm
theorem Tm.iO.one {L1 R1 L2 R2:List Int} {pass:Nat→Bool} {e e':Int} {ps ps':ah} (h:Tm.iO L1 R1 L2 R2 pass e ps) (h':Tm.iO L1 R1 L2 R2 pass e' ps') (e1:Tm.err L1 = 0) (eR:Tm.err R1 = 0) (e2:Tm.err L2 = 0) (Iw:Tm.err R2 = 0):e = e'∧ps = ps':=by
 have h2:=h;rcases h with ⟨rfl,hl⟩ | ⟨hb,rfl⟩
 ·obtain ⟨a,b⟩:=h'.right hl
  exact ⟨a.symm,b.symm⟩
 ·have h3:=h'
  rcases h' with ⟨rfl,hl⟩ | ⟨hb',rfl⟩
  ·obtain ⟨a,b⟩:=h2.right hl
   exact absurd a hb.1
  ·rw [hb.two e1 eR e2 Iw,hb'.two e1 eR e2 Iw]
   exact ⟨rfl,rfl⟩
theorem Tm.dS.one {rs:aH} {i j er FB:Int} {ps ps':ah} (h:Tm.dS rs i j er ps) (h':Tm.dS rs i j FB ps'):er = FB∧ps = ps':=by
 rcases h with ⟨h1,rfl,rfl⟩ | ⟨h1,h2,rfl,rfl⟩ | ⟨h1,a,b,ha,hb,rfl,rfl,h2⟩ <;> rcases h' with ⟨k1,rfl,rfl⟩ | ⟨k1,k2,rfl,rfl⟩ | ⟨k1,c,d,hc,hd,e1,e2,k2⟩
 ·exact ⟨rfl,rfl⟩
 ·exact absurd k1 h1
 ·exact absurd k1 h1
 ·exact absurd h1 k1
 ·exact ⟨rfl,rfl⟩
 ·exact absurd ⟨by omega,by omega,by omega,by omega⟩ h2
 ·exact absurd h1 k1
 ·exact absurd ⟨by omega,by omega,by omega,by omega⟩ k2
 ·obtain rfl:a = c:=by omega
  obtain rfl:b = d:=by omega
  obtain ⟨_,hall⟩:=Tm.di h1;obtain ⟨eL,eR,_⟩:=Tm.bI (hall a ha);obtain ⟨OV,Iw,fL,fR,_⟩:=Tm.bI (hall b hb);exact h2.one k2 eL eR (Tm.kz OV fL) (Tm.kz Iw fR)
theorem rX (ps:ah) (a b:Option Addr) (ca cb:Nat) (w:World) (hA:aJ w.heap.size w a ps) (hB:aJ w.heap.size w b ps) (hl:ps.length≤1000) (jD:∀ k,k < ps.length→(ps[k]?.getD ([],[])).1.length≤1000∧(ps[k]?.getD ([],[])).2.length≤1000) :
 Calls Tryz.prog 10 #[.slice a ps.length ca,.slice b ps.length cb] w fun e w'=>e = .returned (.bool true)∧Below w.heap.size w w':=by
 have hl':(ps.length:Int)≤1000:=by omega
 have hne:((ps.length:Int) != (ps.length:Int)) = false:=by simp
 have HA:=hid hA;have HB:=hid hB;have H30:=hid jD;clear hA hB jD;go_enter Tryz.func10,Tryz.ntmps10;go_wp2;go_loopw [5] (fun i wr=>∃ k:Nat,k≤ps.length∧i = .int .i64 (k:Int)∧Below w.heap.size w wr) (fun i _=>ps.length - (intOf i).toNat)
 case atStart=>exact ⟨0,Nat.zero_le _,rfl,Below.refl _ _⟩
 case round =>
  obtain ⟨k,hk,rfl,oH⟩:=hrel;by_cases hlt:k < ps.length
  ·have hlt':(k:Int) < (ps.length:Int):=by omega
   obtain ⟨b1,o1,rfl,_,aL,cL,aR,cR,c1,c2,i1,i2,_⟩:=(HA.out.below oH) k hlt;obtain ⟨b2,o2,rfl,_,Rp,OW,Rq,Rs,d1,d2,j1,j2,_⟩:=(HB.out.below oH) k hlt;obtain ⟨l1,l2⟩:=H30.out k hlt;have Vb:=hid (fun n:Nat=>mK (ps[k]?.getD ([],[])).1 (ps[k]?.getD ([],[])).1 aL Rp cL OW w.heap.size (wr.drewN n) i1 j1 (by omega));have HS2:=hid (fun n:Nat=>mK (ps[k]?.getD ([],[])).2 (ps[k]?.getD ([],[])).2 aR Rq cR Rs w.heap.size (wr.drewN n) i2 j2 (by omega));rw [show dK (ps[k]?.getD ([],[])).1 (ps[k]?.getD ([],[])).1 = true by simp [dK]] at Vb;rw [show dK (ps[k]?.getD ([],[])).2 (ps[k]?.getD ([],[])).2 = true by simp [dK]] at HS2;clear i1 i2 j1 j2 l1 l2;generalize (ps[k]?.getD ([],[])).1.length = n1 at *;generalize (ps[k]?.getD ([],[])).2.length = n2 at *;go_wp2;go_quiet ((first
    | (go_at_call_of 25 (Value.slice aL n1 cL);exact Calls.quiet_of (Vb.out _))
    | (go_at_call_of 25 (Value.slice aR n2 cR);exact Calls.quiet_of (HS2.out _))))
   go_wp2;go_roundw
   case rel=>exact ⟨k+1,by omega,by go_num,below_drewN oH _⟩
   case measure=>simp [intOf];omega
  ·obtain rfl:k = ps.length:=by omega
   go_wp2;go_ret;exact ⟨rfl,oH⟩
def Uj (rs:aH) (i j:Int) (w:World) (e:Ending) (w':World):Prop:=Below w.heap.size w w'∧∃ er ps v,Tm.dS rs i j er ps∧e = .returned (.tuple #[v,.int .i64 er])∧gG w.heap.size w' v ps
theorem Cf (rs:aH) (i j:Nat) (hi:i < rs.length) (hj:j < rs.length) (a:Option Addr) (cap:Nat) (w:World) (hr:Tm.aO rs = 0) (hR:aJ w.heap.size w a rs) :
 Calls Tryz.prog 88 #[.slice a rs.length cap,.int .i64 (i:Int),.int .i64 (j:Int)] w fun e w'=>Uj rs (i:Int) (j:Int) w e w':=by
 obtain ⟨h8,hall⟩:=Tm.di hr;obtain ⟨eL,eR,_⟩:=Tm.bI (hall i hi);obtain ⟨OV,Iw,fL,fR,_⟩:=Tm.bI (hall j hj);refine (KF (rs[i]?.getD ([],[])).1 (rs[i]?.getD ([],[])).2 (rs[j]?.getD ([],[])).1 (rs[j]?.getD ([],[])).2 rs i j hi hj a cap w h8 hR rfl rfl eL eR OV Iw (Tm.kz OV fL) (Tm.kz Iw fR)).mono ?_;rintro e w' ⟨hB,er,ps,v,hs,rfl,hN⟩;exact ⟨hB,er,ps,v,.inr (.inr ⟨hr,i,j,hi,hj,rfl,rfl,hs⟩),rfl,hN⟩
end Go.Proofs.YtglohanbpjaieaaGreat
namespace Go.Proofs.YtglohanbpjaieaaGreat
open Go.Proofs Go.RowKit Go.Shelf Go.Maps Go.Deep
def EM (w:World) (a:Option Addr) (len cap:Nat):Prop:=Oz w a len cap∧(a = none→cap = 0)
theorem Cw {H:Type} {enc:TypeId × Value→H} {w:World} {fuel:Nat} {a:Option Addr} {len cap:Nat} {cs:List Value} {x:DataW H × List MemPlace} {t e:TypeId} {f0 f1:Field} (ht:Tryz.prog.underlying t = some (.slice e)) (he:Tryz.prog.underlying e = some (.struct #[f0,f1]))
 (ce:Tryz.prog.cellsOf e = 2) (o0:f0.offset = 0) (o1:f1.offset = 1) (t0:f0.type = 35) (t1:f1.type = 35) (hcs:cs = [.slice a len cap]) (h:DataW.trod enc Tryz.prog w 0 (fun _=>true) true fuel t cs = some x):EM w a len cap:=by
 refine ⟨GZ ht he ce o0 o1 t0 t1 hcs h,fun ha=>?_⟩;have c1:Tryz.prog.cellsOf 35 = 1:=by kernel_rfl
 rcases open_slice_pairs ht he ce o0 o1 (by rw [t0];exact c1) (by rw [t1];exact c1) h with ⟨hc,_⟩ | ⟨ad,l,c,m,n,V0,V1,D0,D1,P0,P1,hc,_⟩
 ·rw [hcs] at hc
  simp only [List.cons.injEq,Value.slice.injEq,and_true] at hc;exact hc.2.2
 ·rw [hcs] at hc
  simp only [List.cons.injEq,Value.slice.injEq,and_true] at hc;rw [ha] at hc;cases hc.1
theorem pM {n:Nat} {w:World} {ad:Addr} {qs:ah} (h:aJ n w (some ad) qs):∃ us:List Value,us.length = qs.length * 2∧(∀ j u,us[j]? = some u→w.cell? (ad.add j) = some u)∧(∀ u∈us,∃ a n c,u = .slice a n c) ∧
 ∀ j,j < qs.length→∃ aL cL aR cR,us[j * 2]? = some (.slice aL (qs[j]?.getD ([],[])).1.length cL)∧us[j * 2+1]? = some (.slice aR (qs[j]?.getD ([],[])).2.length cR)∧Ints n w aL (qs[j]?.getD ([],[])).1∧Ints n w aR (qs[j]?.getD ([],[])).2∧(qs[j]?.getD ([],[])).1.length≤cL∧cL≤maxLen∧(qs[j]?.getD ([],[])).2.length≤cR∧cR≤maxLen:=by
 have key:∀ k,k < qs.length→∃ aL cL aR cR,w.cell? (ad.add (k * 2)) = some (.slice aL (qs[k]?.getD ([],[])).1.length cL)∧w.cell? (ad.add (k * 2+1)) = some (.slice aR (qs[k]?.getD ([],[])).2.length cR)∧Ints n w aL (qs[k]?.getD ([],[])).1∧Ints n w aR (qs[k]?.getD ([],[])).2∧(qs[k]?.getD ([],[])).1.length≤cL∧cL≤maxLen∧(qs[k]?.getD ([],[])).2.length≤cR∧cR≤maxLen:=fun k hk=>by
  obtain ⟨b,off,e,_,aL,cL,aR,cR,g1,g2,r⟩:=h k hk;cases e;exact ⟨aL,cL,aR,cR,by rw [Go.WideShapes.add_plain];exact g1,by rw [Go.WideShapes.add_plain];exact g2,r⟩
 have each:∀ j,j < qs.length * 2→∃ a m c,w.cell? (ad.add j) = some (.slice a m c):=fun j hj=>by
  obtain ⟨aL,cL,aR,cR,g1,g2,_⟩:=key (j / 2) (by omega);rcases Nat.mod_two_eq_zero_or_one j with h0 | h0
  ·rw [show j / 2 * 2 = j by omega] at g1;exact ⟨_,_,_,g1⟩
  ·rw [show j / 2 * 2+1 = j by omega] at g2;exact ⟨_,_,_,g2⟩
 have get:∀ j,j < qs.length * 2→((List.range (qs.length * 2)).map fun j=>(w.cell? (ad.add j)).getD (.bool true))[j]? = w.cell? (ad.add j):=fun j hj=>by
  obtain ⟨a,m,c,e⟩:=each j hj;rw [List.getElem?_map,List.getElem?_range hj,Option.map_some,e,Option.getD_some]
 refine ⟨(List.range (qs.length * 2)).map fun j=>(w.cell? (ad.add j)).getD (.bool true),by simp,fun j u hj=>?_,fun u hu=>?_,fun j hj=>?_⟩
 ·have hl:j < qs.length * 2:=by simpa using (List.getElem?_eq_some_iff.1 hj).1
  rw [get j hl] at hj;exact hj
 ·obtain ⟨j,hj,rfl⟩:=List.mem_map.1 hu
  rw [List.mem_range] at hj;obtain ⟨a,m,c,e⟩:=each j hj;exact ⟨a,m,c,by rw [e];rfl⟩
 ·obtain ⟨aL,cL,aR,cR,g1,g2,r⟩:=key j hj
  exact ⟨aL,cL,aR,cR,(get _ (by omega)).trans g1,(get _ (by omega)).trans g2,r⟩
theorem aa7 {ops:Array Oper} {rest:List Oper} {o:Oper} {a:Act} {Q:Exit→Act→World→Prop} (w:World) (hgd:o.guard = none) (s x:Operand)
 (ho:o.op = .call { callee:=.builtin .append,args:=#[s,x],argTypes:=#[23,23] }) (sb eb:Nat) (hse:eb≤sb) (v:Value) (ps:ah) (hs:a.eval s = v) (hN:aU true 54 sb eb w v ps)
 (a2:Option Addr) (c2:Nat) (qs:ah) (hx:a.eval x = .slice a2 qs.length c2) (hn:a2 = none→c2 = 0) (hM:aJ eb w a2 qs) (Uk:eb≤w.heap.size) (hlen:ps.length+qs.length≤100000) (hbase:sb≤w.heap.size)
 (h:∀ v' w',aU true 54 sb eb w' v' (ps++qs)→w.grownBy w' v.ownBlock→Below sb w w'→wpList Tryz.prog ops Q rest (a.put o.dst v') w'):wpList Tryz.prog ops Q (o :: rest) a w:=by
 obtain ⟨i0,hi,hz0,hz1,hz2⟩:=info_parts Tryz.Em;obtain ⟨us,h1,h2⟩:=hN;have zi:us.length = ps.length * 2:=h1.1;cases a2 with
 | none =>
  have hc:=hn rfl;obtain rfl:qs = []:=by
   cases qs with
   | nil=>rfl
   | cons q l=>obtain ⟨b,off,e,_⟩:=hM 0 (by simp);cases e
  subst hc;exact wpList_append_own_none hgd s x 23 ho sb 54 i0 2 Tryz.underlying23 hi v ps.length us hs h1 hx (h v w (by rw [List.append_nil];exact ⟨us,h1,h2⟩) ⟨rfl,rfl,rfl,Nat.le_refl _,fun _ _ _=>rfl⟩ (Below.refl _ _))
 | some ad =>
  obtain ⟨qI,hu1,hu2,hu3,Zn⟩:=pM hM;refine wpList_append_own w hgd s x 23 ho sb 54 i0 (.agg #[.slice none 0 0,.slice none 0 0]) 2 48 Tryz.underlying23 hi hz0 hz1 hz2 rfl (by decide) v ps.length us hs h1 ad qs.length c2 qI hx hu1 hu2
   (by intro u hu;obtain ⟨_,_,_,rfl⟩:=hu3 u hu;rfl) (by unfold maxLen;omega) (by omega) hbase ?_
  intro v' w' hown hg _;have hr:∀ k,v.ownBlock = some k→eb≤k∧∃ cs,w.heap[k]? = some (.cells cs 54 (0,0)):=fun k hk=>⟨Nat.le_trans hse (World.ownsRow.lt h1 k hk).1,ji h1 hk⟩
  have hk:∀ {a:Option Addr} {zs:List Int},bX true eb w a zs→bX true eb w' a zs:=fun h=>h.grown (by decide) hg hr
  refine h v' w' ⟨us++qI,by simpa using hown,fun j hj=>?_⟩ hg ((Below.refl sb w).grown hg hbase (fun k e=>(World.ownsRow.lt h1 k e).1));by_cases hjl:j < ps.length
  ·obtain ⟨y,yc,y',ry,q1,q2,n1,n2,r⟩:=h2 j hjl
   rw [List.getElem?_append_left hjl,List.getElem?_append_left (by omega),List.getElem?_append_left (by omega)];exact ⟨y,yc,y',ry,q1,q2,hk n1,hk n2,r⟩
  ·have hj2:j - ps.length < qs.length:=by rw [List.length_append] at hj;omega
   obtain ⟨y,yc,y',ry,q1,q2,n1,n2,r⟩:=Zn (j - ps.length) hj2;rw [List.getElem?_append_right (by omega),List.getElem?_append_right (by omega),List.getElem?_append_right (by omega),zi];rw [show j * 2 - ps.length * 2 = (j - ps.length) * 2 by omega,show j * 2+1 - ps.length * 2 = (j - ps.length) * 2+1 by omega];exact ⟨y,yc,y',ry,q1,q2,hk (bX.old n1 Uk (Below.refl _ _)),hk (bX.old n2 Uk (Below.refl _ _)),r⟩
theorem QJ {ops:Array Oper} {rest:List Oper} {o:Oper} {a:Act} {Q:Exit→Act→World→Prop} (w:World) (hgd:o.guard = none) (s x:Operand)
 (ho:o.op = .call { callee:=.builtin .append,args:=#[s,x],argTypes:=#[24,24] }) (sb eb:Nat) (hse:eb≤sb) (v:Value) (ps:ah) (hs:a.eval s = v) (hN:aU true 40 sb eb w v ps)
 (a2:Option Addr) (c2:Nat) (qs:ah) (hx:a.eval x = .slice a2 qs.length c2) (hn:a2 = none→c2 = 0) (hM:aJ eb w a2 qs) (Uk:eb≤w.heap.size) (hlen:ps.length+qs.length≤100000) (hbase:sb≤w.heap.size)
 (h:∀ v' w',aU true 40 sb eb w' v' (ps++qs)→w.grownBy w' v.ownBlock→Below sb w w'→wpList Tryz.prog ops Q rest (a.put o.dst v') w'):wpList Tryz.prog ops Q (o :: rest) a w:=by
 obtain ⟨i0,hi,hz0,hz1,hz2⟩:=info_parts Tryz.mH;obtain ⟨us,h1,h2⟩:=hN;have zi:us.length = ps.length * 2:=h1.1;cases a2 with
 | none =>
  have hc:=hn rfl;obtain rfl:qs = []:=by
   cases qs with
   | nil=>rfl
   | cons q l=>obtain ⟨b,off,e,_⟩:=hM 0 (by simp);cases e
  subst hc;exact wpList_append_own_none hgd s x 24 ho sb 40 i0 2 Tryz.underlying24 hi v ps.length us hs h1 hx (h v w (by rw [List.append_nil];exact ⟨us,h1,h2⟩) ⟨rfl,rfl,rfl,Nat.le_refl _,fun _ _ _=>rfl⟩ (Below.refl _ _))
 | some ad =>
  obtain ⟨qI,hu1,hu2,hu3,Zn⟩:=pM hM;refine wpList_append_own w hgd s x 24 ho sb 40 i0 (.agg #[.slice none 0 0,.slice none 0 0]) 2 48 Tryz.underlying24 hi hz0 hz1 hz2 rfl (by decide) v ps.length us hs h1 ad qs.length c2 qI hx hu1 hu2
   (by intro u hu;obtain ⟨_,_,_,rfl⟩:=hu3 u hu;rfl) (by unfold maxLen;omega) (by omega) hbase ?_
  intro v' w' hown hg _;have hr:∀ k,v.ownBlock = some k→eb≤k∧∃ cs,w.heap[k]? = some (.cells cs 40 (0,0)):=fun k hk=>⟨Nat.le_trans hse (World.ownsRow.lt h1 k hk).1,ji h1 hk⟩
  have hk:∀ {a:Option Addr} {zs:List Int},bX true eb w a zs→bX true eb w' a zs:=fun h=>h.grown (by decide) hg hr
  refine h v' w' ⟨us++qI,by simpa using hown,fun j hj=>?_⟩ hg ((Below.refl sb w).grown hg hbase (fun k e=>(World.ownsRow.lt h1 k e).1));by_cases hjl:j < ps.length
  ·obtain ⟨y,yc,y',ry,q1,q2,n1,n2,r⟩:=h2 j hjl
   rw [List.getElem?_append_left hjl,List.getElem?_append_left (by omega),List.getElem?_append_left (by omega)];exact ⟨y,yc,y',ry,q1,q2,hk n1,hk n2,r⟩
  ·have hj2:j - ps.length < qs.length:=by rw [List.length_append] at hj;omega
   obtain ⟨y,yc,y',ry,q1,q2,n1,n2,r⟩:=Zn (j - ps.length) hj2;rw [List.getElem?_append_right (by omega),List.getElem?_append_right (by omega),List.getElem?_append_right (by omega),zi];rw [show j * 2 - ps.length * 2 = (j - ps.length) * 2 by omega,show j * 2+1 - ps.length * 2 = (j - ps.length) * 2+1 by omega];exact ⟨y,yc,y',ry,q1,q2,hk (bX.old n1 Uk (Below.refl _ _)),hk (bX.old n2 Uk (Below.refl _ _)),r⟩
theorem FL (ps:ah) (a b:Option Addr) (ca cb:Nat) (w:World) (hA:aJ w.heap.size w a ps) (hB:aJ w.heap.size w b ps) (hl:ps.length≤1000) (jD:∀ k,k < ps.length→(ps[k]?.getD ([],[])).1.length≤1000∧(ps[k]?.getD ([],[])).2.length≤1000) :
 Calls Tryz.prog 9 #[.slice a ps.length ca,.slice b ps.length cb] w fun e w'=>e = .returned (.bool true)∧Below w.heap.size w w':=by
 have hl':(ps.length:Int)≤1000:=by omega
 have hne:((ps.length:Int) != (ps.length:Int)) = false:=by simp
 have HA:=hid hA;have HB:=hid hB;have H30:=hid jD;clear hA hB jD;go_enter Tryz.func9,Tryz.ntmps9;go_wp2;go_loopw [5] (fun i wr=>∃ k:Nat,k≤ps.length∧i = .int .i64 (k:Int)∧Below w.heap.size w wr) (fun i _=>ps.length - (intOf i).toNat)
 case atStart=>exact ⟨0,Nat.zero_le _,rfl,Below.refl _ _⟩
 case round =>
  obtain ⟨k,hk,rfl,oH⟩:=hrel;by_cases hlt:k < ps.length
  ·have hlt':(k:Int) < (ps.length:Int):=by omega
   obtain ⟨b1,o1,rfl,_,aL,cL,aR,cR,c1,c2,i1,i2,_⟩:=(HA.out.below oH) k hlt;obtain ⟨b2,o2,rfl,_,Rp,OW,Rq,Rs,d1,d2,j1,j2,_⟩:=(HB.out.below oH) k hlt;obtain ⟨l1,l2⟩:=H30.out k hlt;have Vb:=hid (fun n:Nat=>mK (ps[k]?.getD ([],[])).1 (ps[k]?.getD ([],[])).1 aL Rp cL OW w.heap.size (wr.drewN n) i1 j1 (by omega));have HS2:=hid (fun n:Nat=>mK (ps[k]?.getD ([],[])).2 (ps[k]?.getD ([],[])).2 aR Rq cR Rs w.heap.size (wr.drewN n) i2 j2 (by omega));rw [show dK (ps[k]?.getD ([],[])).1 (ps[k]?.getD ([],[])).1 = true by simp [dK]] at Vb;rw [show dK (ps[k]?.getD ([],[])).2 (ps[k]?.getD ([],[])).2 = true by simp [dK]] at HS2;clear i1 i2 j1 j2 l1 l2;generalize (ps[k]?.getD ([],[])).1.length = n1 at *;generalize (ps[k]?.getD ([],[])).2.length = n2 at *;go_wp2;go_quiet ((first
    | (go_at_call_of 25 (Value.slice aL n1 cL);exact Calls.quiet_of (Vb.out _))
    | (go_at_call_of 25 (Value.slice aR n2 cR);exact Calls.quiet_of (HS2.out _))))
   go_wp2;go_roundw
   case rel=>exact ⟨k+1,by omega,by go_num,below_drewN oH _⟩
   case measure=>simp [intOf];omega
  ·obtain rfl:k = ps.length:=by omega
   go_wp2;go_ret;exact ⟨rfl,oH⟩
end Go.Proofs.YtglohanbpjaieaaGreat
