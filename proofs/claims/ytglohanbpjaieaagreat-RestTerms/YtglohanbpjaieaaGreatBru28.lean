/-
  Parts of the proof: Clo20, Clo21, Rst4, Rst5, Rst6a.
-/
import Derived.Test.YtglohanbpjaieaaGreatBru27
set_option maxHeartbeats 8000000
set_option maxRecDepth 100000
namespace Go.Proofs.YtglohanbpjaieaaGreat
open Go.Proofs Go.RowKit Go.Shelf Go.Maps
def Tm.mQ (rs:aH) (ps:ah) (A B:List Int) (er:Int) (rs':aH) (ps':ah):Prop :=
 (Tm.jG A≠0∧er = Tm.jG A∧rs' = []∧ps' = [])∨(Tm.jG A = 0∧Tm.gW rs ps (Tm.plain A) (Tm.fu A B) er rs' ps')
theorem bX.drop {base:Nat} {W:World} {b off:Nat} {zs:List Int} (h:bX true base W (some ⟨b,off,none⟩) zs) (k:Nat):bX true base W (some ⟨b,off+k,none⟩) (zs.drop k):=fun j hj=>by
 rw [List.length_drop] at hj;obtain ⟨b',off',e,h1,h2,h3⟩:=h (k+j) (by omega);cases e;exact ⟨b,off+k,rfl,h1,h2,by rw [List.getElem?_drop,show off+k+j = off+(k+j) from by omega];exact h3⟩
theorem bX.take {base:Nat} {W:World} {a:Option Addr} {zs:List Int} (h:bX true base W a zs) (k:Nat):bX true base W a (zs.take k):=fun j hj=>by
 rw [List.length_take] at hj;obtain ⟨b',off',e,h1,h2,h3⟩:=h j (by omega);exact ⟨b',off',e,h1,h2,by rw [List.getElem?_take_of_lt (by omega)];exact h3⟩
theorem aU.lit (e:TypeId) (sb eb:Nat) (W:World) (h:sb≤W.heap.size):aU true e sb eb (W.alloc (.cells #[] e)) (.slice (some ⟨W.heap.size,0,none⟩) 0 0) [] :=
 ⟨[],⟨rfl,.inr ⟨W.heap.size,0,#[],rfl,h,World.alloc_heap_new W _,Nat.le_refl _,by unfold maxLen;omega,rfl,rfl⟩⟩,fun j hj=>by simp at hj⟩
theorem gG.x {base eb:Nat} {W:World} {v:Value} {ps:ah} (h:gG base W v ps):aU true 40 base eb W v ps:=by
 obtain ⟨us,h1,h2⟩:=h;refine ⟨us,h1,fun j hj=>?_⟩;obtain ⟨aL,cL,aR,cR,q1,q2,i1,i2,r⟩:=h2 j hj;have hI:∀ {a:Option Addr} {zs:List Int},dY base W a zs→bX true eb W a zs:=fun h j hj=>by
  obtain ⟨b,off,e,_,⟨cs,p,hb⟩,hc⟩:=h j hj;exact ⟨b,off,e,.inr ⟨.inl rfl,cs,p,hb⟩,(Array.getElem?_eq_some_iff.1 hb).1,hc⟩
 exact ⟨aL,cL,aR,cR,q1,q2,hI i1,hI i2,r⟩
theorem aU.same {e:TypeId} {sb eb:Nat} {W V:World} {v:Value} {ps:ah} (h:aU true e sb eb W v ps) (hV:V.heap = W.heap):aU true e sb eb V v ps:=h.keep (by rw [hV];exact Nat.le_refl _) (fun q _=>by rw [hV]) fun b _ _=>by rw [hV]
theorem bX.same {base:Nat} {W V:World} {a:Option Addr} {zs:List Int} (h:bX true base W a zs) (hV:V.heap = W.heap):bX true base V a zs:=h.keep (by rw [hV];exact Nat.le_refl _) fun b _ _=>by rw [hV]
theorem Tm.Gs (n:Nat):∀ j k,k < j→(Tm.jA n j)[2 * k]? = some (k,n)∧(Tm.jA n j)[2 * k+1]? = some (n,k):=by
 intro j;induction j with
 | zero=>intro k hk;omega
 | succ j ih =>
  intro k hk;have hl:=Tm.mM n j;rw [Tm.qK];by_cases e:k = j
  ·subst e
   rw [List.getElem?_append_right (by omega),List.getElem?_append_right (by omega),hl,Nat.sub_self,show 2 * k+1 - 2 * k = 1 by omega];exact ⟨rfl,rfl⟩
  ·rw [List.getElem?_append_left (by omega),List.getElem?_append_left (by omega)]
   exact ih k (by omega)
theorem Tm.Pn {n k:Nat} (h:k≤n):(Tm.ways n)[2 * k]?.getD (0,0) = (k,n):=by
 have hl:=Tm.mM n n;unfold Tm.ways;by_cases e:k = n
 ·subst e
  rw [List.getElem?_append_right (by omega),hl,Nat.sub_self];rfl
 ·rw [List.getElem?_append_left (by omega),(Tm.Gs n n k (by omega)).1]
  rfl
theorem Tm.KH {n k:Nat} (h:k < n):(Tm.ways n)[2 * k+1]?.getD (0,0) = (n,k):=by
 have hl:=Tm.mM n n;unfold Tm.ways;rw [List.getElem?_append_left (by omega),(Tm.Gs n n k h).2];rfl
theorem nG (rk:List Int) (rs:aH) (ps:ah) (A B:List Int) (al ae aA aB:Option Addr) (cl ce cA cB:Nat) (w:World) (hk:Tm.aZ rk = 0) (hr:Tm.aO rs = 0) (eA:Tm.err A = 0) (eB:Tm.err B = 0) (ha:Tm.bg rk A B = true) (Di:ps.length≤40)
  (hL:aJ w.heap.size w al rs) (hP:aJ w.heap.size w ae ps) (hn:ae = none→ce = 0) (hA:Ints w.heap.size w aA A) (hB:Ints w.heap.size w aB B) :
  Calls Tryz.prog 65 #[.slice al rs.length cl,.slice ae ps.length ce,.slice aA A.length cA,.slice aB B.length cB] w fun e w'=>∃ er rs' ps' v u,Tm.mQ rs ps A B er rs' ps'∧e = .returned (.tuple #[v,u,.int .i64 er])∧aU true 54 w.heap.size w.heap.size w' v rs'∧aU true 40 w.heap.size w.heap.size w' u ps'∧Below w.heap.size w w':=by
 have lA:=Tm.aI eA;have lB:=Tm.aI eB;have pA:=Tm.bM eA;have pB:=Tm.bM eB;have lA':(A.length:Int)≤30:=by omega
 have lB':(B.length:Int)≤30:=by omega
 obtain ⟨h8,hall⟩:=Tm.di hr;have h8':(rs.length:Int)≤8:=by omega
 obtain ⟨bA,oA,rfl⟩:∃ b o,aA = some ⟨b,o,none⟩:=by obtain ⟨x,y,e,_⟩:=hA.at pA;exact ⟨x,y,e⟩
 obtain ⟨bB,oB,rfl⟩:∃ b o,aB = some ⟨b,o,none⟩:=by obtain ⟨x,y,e,_⟩:=hB.at pB;exact ⟨x,y,e⟩
 obtain ⟨Z,hZ⟩:∃ Z,A++B = Z:=⟨_,rfl⟩;have hZl:Z.length = A.length+B.length:=by rw [← hZ,List.length_append]
 have hpl:Hid ((Tm.plain Z).length = A.length+B.length):=by
  show _ = _;unfold Tm.plain;rw [Tm.bH,hZl]
 have Po:Hid (Tm.plain A++Tm.fu A B = Tm.plain Z):=by
  show _ = _;rw [Sn.both,hZ];rfl
 have hpA:Hid ((Tm.plain A).length = A.length):=by show _ = _;unfold Tm.plain;exact Tm.bH _ _ _
 have hown:=hid (Tm.Qu hk eA eB ha);have Ul:=hid (fun h0=>Tm.Ms hk eA eB ha h0);rw [Po.out] at hown;have hV1:Hid (Tm.plain A = (Tm.plain Z).take A.length):=by show _ = _;rw [← Po.out,← hpA.out,List.take_left]
 have hV2:Hid (Tm.fu A B = (Tm.plain Z).drop A.length):=by show _ = _;rw [← Po.out,← hpA.out,List.drop_left]
 have Wv:=hid (fun (V:World) (ad:Option Addr) (ct:Nat) h=>rU Z ad ct V (by omega) (by omega) (fun q hq=>by
  rw [List.getElem?_eq_getElem hq];simp only [Option.getD_some];rcases List.mem_append.1 (by rw [hZ];exact List.getElem_mem hq:Z[q]∈A++B) with h | h
  ·exact (Tm.gX eA h).1
  ·exact (Tm.gX eB h).1) h)
 have hl0:Hid (New w.heap.size (w.alloc (.cells #[] 3)) (.slice (some ⟨w.heap.size,0,none⟩) 0 0) []):=New.lit w.heap.size w [] (Nat.le_refl _) (by unfold maxLen;simp);have Jq:Hid (Below w.heap.size w (w.alloc (.cells #[] 3))):=(Below.refl _ _).alloc (Nat.le_refl _) _;have HZ:=hid hZ;have HA:=hid hA;have HB:=hid hB;have HL:=hid hL;have HP:=hid hP;have nH:=hid hall;clear hZ hA hB hL hP hall hZl ha hk hr;go_enter Tryz.func65,Tryz.ntmps65;go_wp2_with (first
  | (at_builtin;refine aK _ rfl _ _ rfl w.heap.size _ [] rfl hl0.out _ A _ rfl (fun e=>by cases e) ((HA.out.below Jq.out).mono Jq.out.size) (by simp;omega) Jq.out.size ?_;intro v9 w9 n9 b9;obtain ⟨x9,k9,rfl,_⟩:=New.ints n9;have Uh:=hid (Jq.out.trans b9);rw [List.nil_append] at n9)
  | (at_builtin;refine aK _ rfl _ _ rfl w.heap.size _ A rfl n9 _ B _ rfl (fun e=>by cases e) ((HB.out.below Uh.out).mono Uh.out.size) (by omega) Uh.out.size ?_;intro v10 w10 n10 b10;rw [HZ.out] at n10;obtain ⟨x10,k10,rfl,i10,_⟩:=New.ints n10;have KG:=hid (Uh.out.trans b10))
  | (go_at_call 95;refine (Wv.out _ _ _ i10).mono ?_;rintro e CP ⟨v11,rfl,n11,b11⟩;have EL:=hid (KG.out.trans (b11.mono KG.out.size)))
  | (go_at_call 40;fail))
 obtain ⟨x11,k11,rfl,hir,hk1,hk2⟩:=bX.new (fl:=true) (base:=w.heap.size) n11 (.inl rfl);obtain ⟨g11,agm,e11,_,_⟩:=New.XB n11 (by have:=hpl.out;omega);cases e11;have hO:=hid (sj (Tm.plain Z) (some ⟨g11,0,none⟩) k11 CP hir.ints (by omega));have QI:=hid hir;clear Wv hl0 Jq HA HB Uh KG n9 n10 n11 i10 b9 b10 b11 hir;cases hf:(Tm.plain Z).any aV with
 | true =>
  rw [hf,if_pos rfl] at hown;rw [hf] at hO;have hs:Hid (Tm.mQ rs ps A B 3 [] []):=.inl ⟨by rw [hown.out];decide,hown.out.symm,rfl,rfl⟩;clear hf hown Ul;generalize Tm.plain Z = PZ at *;refine hO.out.mono ?_;rintro e CP ⟨rfl,rfl⟩;go_wp2;go_ret3
  exact ⟨3,[],[],_,_,hs.out,rfl,aU.nil _ _ _ _,aU.nil _ _ _ _,EL.out⟩
 | false =>
  rw [hf,if_neg (by decide)] at hown;rw [hf] at hO;have hr1:=hid (Ul.out hown.out);have Ww:Hid (∀ er rs' ps',Tm.gW rs ps (Tm.plain A) (Tm.fu A B) er rs' ps'→Tm.mQ rs ps A B er rs' ps'):=fun er rs' ps' h=>.inr ⟨hown.out,h⟩
  rw [hV1.out,hV2.out] at Ww hr1;clear hf hown Ul hV1 hV2 Po hpA;generalize Tm.plain Z = PZ at *;have acS:(PZ.length:Int)≤(k11:Int):=by omega
  have hPZ:(PZ.length:Int) = (A.length:Int)+(B.length:Int):=by have:=hpl.out;omega
  have hXP:(A.length:Int)≤(PZ.length:Int):=by omega
  have hXk:(A.length:Int)≤(k11:Int):=by omega
  have hkz:¬ k11 - A.length = 0:=by omega
  have acU:¬ k11 = A.length:=by omega
  have hdl:Hid (PZ.length - A.length = (PZ.drop A.length).length):=(List.length_drop).symm;have htl:Hid (A.length = (PZ.take A.length).length):=by show _ = _;rw [List.length_take];omega
  have HPZ:=hid hPZ;clear hPZ;have hkm:k11≤9223372036854775807:=hk2;have acV:(k11:Int)≤9223372036854775807:=by omega
  refine hO.out.mono ?_;rintro e CP ⟨rfl,rfl⟩;clear hO;go_wp2;go_region_held3 (fun _=>True) (first | trivial) (fail)
  obtain ⟨Um,Wx⟩:∃ Um,(CP.alloc (.cells #[.slice (some ⟨g11,0,none⟩) A.length A.length,.slice (some ⟨g11,A.length,none⟩) (PZ.length - A.length) (k11 - A.length)] 54)).drew = Um:=⟨_,rfl⟩;rw [Wx];obtain ⟨L,hLe⟩:∃ L,PZ.take A.length = L:=⟨_,rfl⟩;obtain ⟨R,hRe⟩:∃ R,PZ.drop A.length = R:=⟨_,rfl⟩;have iL0:=QI.out.take A.length;have iR0:=QI.out.drop A.length;rw [Nat.zero_add] at iR0;rw [hLe] at Ww hr1 htl iL0;rw [hRe] at Ww hr1 hdl iR0;have hBa:Below CP.heap.size CP Um:=by rw [← Wx];exact below_drewN ((Below.refl _ _).alloc (Nat.le_refl _) _) 1
  have bx:bZ Um CP.heap.size 54 (.slice (some ⟨g11,0,none⟩) L.length A.length) (.slice (some ⟨g11,A.length,none⟩) R.length (k11 - A.length)):=by
   rw [← Wx,← htl.out,← hdl.out];exact bZ.new CP _ _ _
  have QK:=EL.out.trans (hBa.mono EL.out.size);obtain ⟨n,Wy⟩:∃ n,n = CP.heap.size:=⟨_,rfl⟩;have hbn:w.heap.size≤n:=by rw [Wy];exact EL.out.size
  have alQ:n < Um.heap.size:=by rw [Wy];exact bx.lt
  rw [← Wy] at bx ⊢;have I12:Hid (nD true w.heap.size n w (.slice none 0 0) [] (some ⟨g11,0,none⟩) (some ⟨g11,A.length,none⟩) A.length (k11 - A.length) L R (.slice (some ⟨Um.heap.size,0,none⟩) 0 0) (.slice none 0 0) [] [] (Um.alloc (.cells #[] 40))):=by
   have hAl:Below Um.heap.size Um (Um.alloc (.cells #[] 40)):=(Below.refl _ _).alloc (Nat.le_refl _) _;exact ⟨aU.lit _ _ _ _ QK.size,aU.nil _ _ _ _,aU.nil _ _ _ _,bx.alloc _,(iL0.below hBa).below hAl,(iR0.below hBa).below hAl,QK.trans (hAl.mono QK.size)⟩
  have agx:Hid (aJ w.heap.size (Um.alloc (.cells #[] 40)) ae ps):=HP.out.below I12.out.kp;have cL1:Hid (L.length≤A.length):=by show _≤_;have:=htl.out;omega
  have cR1:Hid (R.length≤k11 - A.length):=by show _≤_;have:=hdl.out;omega
  have pL:Hid (0 < L.length):=by show _ < _;have:=htl.out;omega
  have eLR:=hid (Tm.bI hr1.out.1);have hcm:A.length≤maxLen:=by unfold maxLen;omega
  have hcm2:k11 - A.length≤maxLen:=by unfold maxLen;omega
  clear Wx hLe hRe htl hdl QI iL0 iR0 hBa bx QK Wy EL HPZ hpl hk1 acS hXP hXk hkz acU hkm acV hk2 HZ;go_wp2_with (at_builtin;go_loud (refine QJ _ rfl _ _ rfl w.heap.size w.heap.size (Nat.le_refl _) _ [] rfl I12.out.ne ae ce ps rfl hn agx.out I12.out.kp.size (by simp;omega) I12.out.kp.size ?_);intro v14 w14 Zo acY acZ;have I14:=hid (I12.out.pair acY acZ Zo);obtain ⟨a14,c14,rfl⟩:=Zo.slice;clear Zo acY acZ I12)
  go_loopw [13,14,15] (fun xs xe v wr=>∃ k:Nat,k≤rs.length∧v = .int .i64 (k:Int)∧Hid (nD true w.heap.size n w (.slice none 0 0) [] (some ⟨g11,0,none⟩) (some ⟨g11,A.length,none⟩) A.length (k11 - A.length) L R xe xs (ps++Tm.taken L (rs.take k)) (Tm.stays L (rs.take k)) wr)) (fun _ _ v _=>rs.length - (intOf v).toNat)
  case atStart=>exact ⟨0,Nat.zero_le _,rfl,by simpa [Tm.taken,Tm.stays] using I14⟩
  case round =>
   obtain ⟨k,hk,rfl,hI⟩:=hrel;obtain ⟨ya,yc,rfl⟩:=hI.out.ne.slice;obtain ⟨za,zc,rfl⟩:=hI.out.ns.slice;clear I14;by_cases hlt:k < rs.length
   ·have hlt':(k:Int) < (rs.length:Int):=by omega
    obtain ⟨bq,off,rfl,hbq,aP,cP,aQ,cQ,g1,g2,g3,g4,g5,g6,g7,g8⟩:=(HL.out.below hI.out.kp) k hlt;have eP:=(Tm.bI (nH.out k hlt)).1;have hs1:=hid (Tm.Ey (L:=L) hlt);have hs2:=hid (show ps++Tm.taken L (rs.take (k+1)) = (ps++Tm.taken L (rs.take k))++(if Tm.lN L ((rs[k]?.getD ([],[])).1,(rs[k]?.getD ([],[])).2) = true then [((rs[k]?.getD ([],[])).1,(rs[k]?.getD ([],[])).2)] else []) by rw [Tm.Ez (L:=L) hlt,List.append_assoc]);have hl1:(ps++Tm.taken L (rs.take k)).length≤48:=by have:=Tm.zw L (rs.take k);rw [List.length_append];rw [List.length_take] at this;omega
    have hl2:(Tm.stays L (rs.take k)).length≤8:=by have:=Tm.zu L (rs.take k);rw [List.length_take] at this;omega
    have hov:Hid (Tm.lN L ((rs[k]?.getD ([],[])).1,(rs[k]?.getD ([],[])).2) = decide (0 < (Tm.kM (rs[k]?.getD ([],[])).1 L).length)):=rfl;generalize (rs[k]?.getD ([],[])).1 = P at *;generalize (rs[k]?.getD ([],[])).2 = Q at *;generalize ps++Tm.taken L (rs.take k) = pt at *;generalize Tm.stays L (rs.take k) = sk at *;generalize Tm.lN L (P,Q) = tb at *;have y1:=hI.out.bx.cell0;have hnw:n < wr.heap.size:=hI.out.bx.lt;have hsw:w.heap.size≤wr.heap.size:=hI.out.kp.size;have hBW:=Below.refl wr.heap.size wr;have hS0:wr.cell? ⟨bq,off+k * 2,none⟩ = some (.slice aP P.length cP)∧wr.cell? ⟨n,0,none⟩ = some (.slice (some ⟨g11,0,none⟩) L.length A.length):=⟨g1,y1⟩;have hSS:=hid (fun V (hV:Below wr.heap.size wr V)=>(⟨(hV.cell (p:=⟨bq,off+k * 2,none⟩) (by show bq < _;omega)).trans g1,(hV.cell (p:=⟨n,0,none⟩) hnw).trans y1⟩:V.cell? ⟨bq,off+k * 2,none⟩ = some (.slice aP P.length cP)∧V.cell? ⟨n,0,none⟩ = some (.slice (some ⟨g11,0,none⟩) L.length A.length)));have hSR:=hid (fun V (hV:Below wr.heap.size wr V)=>(show V.cell? ⟨bq,off+k * 2,none⟩ = some (.slice aP P.length cP)∧V.cell? ⟨bq,off+k * 2+1,none⟩ = some (.slice aQ Q.length cQ) from ⟨(hV.cell (p:=⟨bq,off+k * 2,none⟩) (by show bq < _;omega)).trans g1,(hV.cell (p:=⟨bq,off+k * 2+1,none⟩) (by show bq < _;omega)).trans g2⟩));have hC:=hid (fun V (hV:Below wr.heap.size wr V)=>(ML P L aP (some ⟨g11,0,none⟩) cP A.length V ((g3.mono hsw).below hV |>.mono hV.size) ((hI.out.iL.ints.below hV).mono hV.size) ⟨g5,g6⟩ ⟨cL1.out,hcm⟩).mono (fun e w' ⟨v,p1,p2,p3⟩=>(⟨v,p1,p2,hV.trans (p3.mono hV.size)⟩:∃ v,e = Ending.returned (.tuple #[v,.int .i64 (Tm.cK P L)])∧New V.heap.size w' v (Tm.kM P L)∧Below wr.heap.size wr w')));have iP:=hid (fun V (hV:Below wr.heap.size wr V)=>(show bX true w.heap.size V aP P from bX.old g3 (Nat.le_trans hsw hV.size) (hV.mono hsw)));have iQ:=hid (fun V (hV:Below wr.heap.size wr V)=>(show bX true w.heap.size V aQ Q from bX.old g4 (Nat.le_trans hsw hV.size) (hV.mono hsw)));generalize Tm.kM P L = ov at *;generalize Tm.cK P L = fe at *;clear g1 g2 g3 g4 y1;go_wp2;go_region_held3 (fun w'=>w'.cell? ⟨bq,off+k * 2,none⟩ = some (.slice aP P.length cP)∧w'.cell? ⟨n,0,none⟩ = some (.slice (some ⟨g11,0,none⟩) L.length A.length)) (first | assumption | exact hS0)
     ((go_at_call 96;refine (hC.out _ (by first | exact hBW | exact below_drewN hBW 1)).mono ?_;rintro e w3 ⟨v3,rfl,iD,b3⟩;obtain ⟨x3,d3,rfl,_⟩:=New.ints iD;have s3:=hSS.out _ b3))
    have I3:=hid (hI.out.below (Nat.le_refl _) b3);have hR3:=hSR.out _ b3;have Ho:Hid (ov.length = ov.length):=rfl;have afx:n < w3.heap.size:=I3.out.bx.lt;have alR:w.heap.size≤w3.heap.size:=I3.out.kp.size;clear hC iD s3 hS0 hSS hBW hI;by_cases htk:0 < ov.length
    ·have YG:(0:Int) < (ov.length:Int):=by omega
     have htb:Hid (tb = true):=by show tb = true;rw [hov.out];exact decide_eq_true htk
     rw [htb.out,if_pos rfl] at hs1 hs2;rw [List.append_nil] at hs1;have gI:Hid (∀ V:World,V.heap = (w3.alloc (.cells #[.slice aP P.length cP,.slice aQ Q.length cQ] 40)).heap→aU true 40 w.heap.size w.heap.size V (.slice ya pt.length yc) pt):=fun V hV=>(I3.out.ne.below ((Below.refl w3.heap.size w3).alloc (Nat.le_refl _) _)).same hV
     have KI:Hid (∀ V:World,V.heap = (w3.alloc (.cells #[.slice aP P.length cP,.slice aQ Q.length cQ] 40)).heap→V.cell? ⟨w3.heap.size,0,none⟩ = some (.slice aP P.length cP)):=fun V hV=>(aM (show V.heap[w3.heap.size]? = _ by rw [hV];exact World.alloc_heap_new w3 _) 0).trans rfl
     have hblk1:Hid (∀ V:World,V.heap = (w3.alloc (.cells #[.slice aP P.length cP,.slice aQ Q.length cQ] 40)).heap→V.cell? ⟨w3.heap.size,1,none⟩ = some (.slice aQ Q.length cQ)):=fun V hV=>(aM (show V.heap[w3.heap.size]? = _ by rw [hV];exact World.alloc_heap_new w3 _) 1).trans rfl
     have hA3:Below wr.heap.size wr (w3.alloc (.cells #[.slice aP P.length cP,.slice aQ Q.length cQ] 40)):=b3.alloc b3.size _;have hi4:Hid (∀ V:World,V.heap = (w3.alloc (.cells #[.slice aP P.length cP,.slice aQ Q.length cQ] 40)).heap→bX true w.heap.size V aP P∧bX true w.heap.size V aQ Q):=fun V hV=>⟨(iP.out _ hA3).same hV,(iQ.out _ hA3).same hV⟩
     have DJ:=hid (fun (V:World) (hV:V.heap = (w3.alloc (.cells #[.slice aP P.length cP,.slice aQ Q.length cQ] 40)).heap)=>(show V.cell? ⟨bq,off+k * 2,none⟩ = some (.slice aP P.length cP)∧V.cell? ⟨bq,off+k * 2+1,none⟩ = some (.slice aQ Q.length cQ) from ⟨(World.cell?_of_block (a:=⟨bq,off+k * 2,none⟩) (by rw [hV])).trans (hSR.out _ hA3).1,(World.cell?_of_block (a:=⟨bq,off+k * 2+1,none⟩) (by rw [hV])).trans (hSR.out _ hA3).2⟩));have hS5:Hid (∀ (V V':World),V.heap = (w3.alloc (.cells #[.slice aP P.length cP,.slice aQ Q.length cQ] 40)).heap→Below w.heap.size V V'→V'.cell? ⟨bq,off+k * 2,none⟩ = some (.slice aP P.length cP)∧V'.cell? ⟨bq,off+k * 2+1,none⟩ = some (.slice aQ Q.length cQ)):=fun V V' hV hB=>⟨(hB.cell (p:=⟨bq,off+k * 2,none⟩) hbq).trans (DJ.out V hV).1,(hB.cell (p:=⟨bq,off+k * 2+1,none⟩) hbq).trans (DJ.out V hV).2⟩
     clear htk;go_wp2;go_region_held3 (fun w'=>w'.cell? ⟨bq,off+k * 2,none⟩ = some (.slice aP P.length cP)∧w'.cell? ⟨bq,off+k * 2+1,none⟩ = some (.slice aQ Q.length cQ)) (first | assumption | exact hR3 | exact DJ.out _ (by rfl))
      ((refine En _ (by rfl) _ _ (by rfl) w.heap.size w.heap.size (Nat.le_refl _) (.slice ya pt.length yc) pt (by rfl) (gI.out _ (by rfl)) w3.heap.size aP aQ P Q cP cQ (by rfl) (KI.out _ (by rfl)) (hblk1.out _ (by rfl)) (hi4.out _ (by rfl)).1 (hi4.out _ (by rfl)).2 g5 g6 g7 g8 (by omega) (by simp;omega) ?_;intro gg cc w5 mV hg5 gq;have s5:=hS5.out _ _ (by rfl) gq))
     all_goals (
      have I5:=hid ((I3.out.below (Nat.le_refl _) (below_drewN ((Below.refl w3.heap.size w3).alloc (Nat.le_refl _) (.cells #[.slice aP P.length cP,.slice aQ Q.length cQ] 40)) 1)).pair hg5 gq mV);clear s5 mV hg5 gq gI KI hblk1 hi4 DJ hS5 I3;go_wp2;go_roundw
      case rel=>exact ⟨k+1,by omega,by go_num,by rw [hs1.out,hs2.out];simpa [Hid] using I5⟩
      case measure=>simp [intOf];omega)
    ·have YG:¬ (0:Int) < (ov.length:Int):=by omega
     have htb:Hid (tb = false):=by show tb = false;rw [hov.out];exact decide_eq_false htk
     rw [htb.out,if_neg (by simp)] at hs1 hs2;rw [List.append_nil] at hs2;obtain ⟨t0,t1⟩:=hR3;have hA:=(Below.refl w3.heap.size w3).alloc (Nat.le_refl _) (.cells #[.slice aP P.length cP,.slice aQ Q.length cQ] 54);have I4:=hid (I3.out.below (Nat.le_refl _) hA);have blk:=World.alloc_heap_new w3 (.cells #[.slice aP P.length cP,.slice aQ Q.length cQ] 54);have HB0:=hid ((aM blk 0).trans rfl:(w3.alloc (.cells #[.slice aP P.length cP,.slice aQ Q.length cQ] 54)).cell? ⟨w3.heap.size,0,none⟩ = some (.slice aP P.length cP));have HB1:=hid ((aM blk 1).trans rfl:(w3.alloc (.cells #[.slice aP P.length cP,.slice aQ Q.length cQ] 54)).cell? ⟨w3.heap.size,1,none⟩ = some (.slice aQ Q.length cQ));have hA3:=b3.trans (hA.mono b3.size);have YH:=hid (iP.out _ hA3);have YI:=hid (iQ.out _ hA3);clear htk blk hA hA3;go_wp2_with (at_builtin;go_loud (refine oh _ rfl _ _ rfl (n+1) w.heap.size (by omega) _ sk rfl I4.out.ns w3.heap.size aP aQ P Q cP cQ rfl HB0.out HB1.out YH.out YI.out g5 g6 g7 g8 (by omega) (by simp;omega) ?_);intro Xy Xz w5 mV hg5 gq)
     have I5:=hid (I4.out.rule hbn (fun k hk=>by cases hk) hg5 gq mV);clear mV hg5 gq I4 I3;go_roundw
     case rel=>exact ⟨k+1,by omega,by go_num,by rw [hs1.out,hs2.out];simpa [Hid] using I5⟩
     case measure=>simp [intOf];omega
   ·obtain rfl:k = rs.length:=by omega
    rw [List.take_length] at hI;have hS:Hid (∀ er rs' ps',((8 < (Tm.stays L rs).length+1∧er = 2∧rs' = []∧ps' = []) ∨
 ((Tm.stays L rs).length+1≤8∧∃ e q,Tm.gV (Tm.stays L rs++[(L,R)]) (Tm.ways (Tm.stays L rs).length) e q ∧
  ((e≠0∧er = e∧rs' = []∧ps' = [])∨(e = 0∧40 < (ps++Tm.taken L rs++q).length∧er = 2∧rs' = []∧ps' = [])∨(e = 0∧(ps++Tm.taken L rs++q).length≤40∧er = 0∧rs' = Tm.stays L rs++[(L,R)]∧ps' = ps++Tm.taken L rs++q))))→Tm.mQ rs ps A B er rs' ps'):=fun er rs' ps' h=>Ww.out er rs' ps' h
    have hl1:(ps++Tm.taken L rs).length≤48:=by have:=Tm.zw L rs;rw [List.length_append];omega
    have hl2:(Tm.stays L rs).length≤8:=by have:=Tm.zu L rs;omega
    have hrs:Hid ((Tm.stays L rs).length+1≤8→Tm.aO (Tm.stays L rs++[(L,R)]) = 0):=fun h=>by
     unfold Tm.aO;rw [if_neg (by rw [List.length_append];simp;omega)];refine Tm.IU fun x hx=>?_
     rcases List.mem_append.1 hx with hx | hx
     ·obtain ⟨j,hj,rfl⟩:=List.getElem_of_mem (List.mem_filter.1 hx).1
      have:=nH.out j hj
      rwa [List.getElem?_eq_getElem hj] at this
     ·simp only [List.mem_cons,List.not_mem_nil,or_false] at hx
      subst hx;exact hr1.out.1
    rw [List.take_length];generalize ps++Tm.taken L rs = pt at *;generalize Tm.stays L rs = sk at *;have y0:=hI.out.bx.cell0;have y1:=hI.out.bx.cell1;have hnw:n < wr.heap.size:=hI.out.bx.lt;have hsw:w.heap.size≤wr.heap.size:=hI.out.kp.size;have hA:=(Below.refl wr.heap.size wr).alloc (Nat.le_refl _) (.cells #[.slice (some ⟨g11,0,none⟩) L.length A.length,.slice (some ⟨g11,A.length,none⟩) R.length (k11 - A.length)] 54);have I4:=hid (hI.out.below (Nat.le_refl _) hA);have blk:=World.alloc_heap_new wr (.cells #[.slice (some ⟨g11,0,none⟩) L.length A.length,.slice (some ⟨g11,A.length,none⟩) R.length (k11 - A.length)] 54);have HB0:=hid ((aM blk 0).trans rfl:(wr.alloc (.cells #[.slice (some ⟨g11,0,none⟩) L.length A.length,.slice (some ⟨g11,A.length,none⟩) R.length (k11 - A.length)] 54)).cell? ⟨wr.heap.size,0,none⟩ = some (.slice (some ⟨g11,0,none⟩) L.length A.length));have HB1:=hid ((aM blk 1).trans rfl:(wr.alloc (.cells #[.slice (some ⟨g11,0,none⟩) L.length A.length,.slice (some ⟨g11,A.length,none⟩) R.length (k11 - A.length)] 54)).cell? ⟨wr.heap.size,1,none⟩ = some (.slice (some ⟨g11,A.length,none⟩) R.length (k11 - A.length)));clear blk hA hI;by_cases h9:8 < sk.length+1
    ·have h9':(8:Int) < (sk.length:Int)+1:=by omega
     go_wp2_with (at_builtin;go_loud (refine oh _ rfl _ _ rfl (n+1) w.heap.size (by omega) _ sk rfl I4.out.ns wr.heap.size (some ⟨g11,0,none⟩) (some ⟨g11,A.length,none⟩) L R A.length (k11 - A.length) rfl HB0.out HB1.out I4.out.iL I4.out.iR cL1.out hcm cR1.out hcm2 (by omega) (by simp;omega) ?_);intro Xy Xz w5 mV hg5 gq)
     have I5:=hid (I4.out.rule hbn (fun k hk=>by cases hk) hg5 gq mV);go_ret3
     exact ⟨2,[],[],_,_,hS.out _ _ _ (.inl ⟨h9,rfl,rfl,rfl⟩),rfl,aU.nil _ _ _ _,aU.nil _ _ _ _,I5.out.kp⟩
    ·have h9':¬ (8:Int) < (sk.length:Int)+1:=by omega
     have hre:=hid (hrs.out (by omega));have hsk:(sk.length:Int)≤7:=by omega
     go_wp2_with (at_builtin;go_loud (refine oh _ rfl _ _ rfl (n+1) w.heap.size (by omega) _ sk rfl I4.out.ns wr.heap.size (some ⟨g11,0,none⟩) (some ⟨g11,A.length,none⟩) L R A.length (k11 - A.length) rfl HB0.out HB1.out I4.out.iL I4.out.iR cL1.out hcm cR1.out hcm2 (by omega) (by simp;omega) ?_);intro Xy Xz w5 mV hg5 gq;have I5:=hid (I4.out.rule hbn (fun k hk=>by cases hk) hg5 gq mV);clear mV hg5 gq)
     have hlr:Hid ((sk++[(L,R)]).length = sk.length+1):=by show _ = _;simp
     have hwl:=hid (Tm.Ex sk.length);go_loopw [14,19] (fun xe v X=>∃ (m:Nat) (l:ah),m≤sk.length∧v = .int .i64 (m:Int)∧(∃ oa oc,xe = .slice oa (pt++l).length oc)∧Hid (Tm.jB (sk++[(L,R)]) (Tm.ways sk.length) (2 * m) l)∧Hid (nD true w.heap.size n w (.slice none 0 0) [] (some ⟨g11,0,none⟩) (some ⟨g11,A.length,none⟩) A.length (k11 - A.length) L R xe (.slice (some ⟨Xy,0,none⟩) (sk.length+1) Xz) (pt++l) (sk++[(L,R)]) X)) (fun _ v _=>sk.length+1 - (intOf v).toNat)
     case atStart=>exact ⟨0,[],Nat.zero_le _,rfl,⟨ya,yc,by rw [List.append_nil]⟩,Tm.jB.zero _ _,by simpa [Hid] using I5⟩
     case round =>
      obtain ⟨X,rfl⟩:∃ X,X = wr:=⟨wr,rfl⟩;obtain ⟨m,l,hm,rfl,⟨ea,ec,rfl⟩,hto,hI⟩:=hrel;clear I5 y0 y1 HB0 HB1 I4;have hlen:=hto.out.len;have hm':(m:Int)≤(sk.length:Int):=by omega
      have alS:(0:Int)≤(sk.length:Int):=by omega
      obtain ⟨a6,c6,e6,hR6,_⟩:=hI.out.ns.at;rw [hlr.out] at e6;cases e6;have hof:=hid (fun V (hV:Below X.heap.size X V) (i j:Nat) (hi:i≤sk.length) (hj:j≤sk.length)=>Cf (sk++[(L,R)]) i j (by rw [hlr.out];omega) (by rw [hlr.out];omega) (some ⟨Xy,0,none⟩) Xz V hre.out ((hR6.below hV).mono hV.size));rw [hlr.out] at hof;have hnx:=hid (fun qs (hs:Tm.dS (sk++[(L,R)]) (m:Int) (sk.length:Int) 0 qs)=>hto.out.next (ps:=qs) (by rw [Tm.Pn hm];exact hs));have hst:Hid (∀ er qs,er≠0→Tm.dS (sk++[(L,R)]) (m:Int) (sk.length:Int) er qs→Tm.gV (sk++[(L,R)]) (Tm.ways sk.length) er []):=fun er qs he hs=>.inr ⟨he,rfl,2 * m,qs,by have:=hwl.out;omega,⟨l,hto.out⟩,by rw [Tm.Pn hm];exact hs⟩
      have QL:Hid (∀ er qs l',m < sk.length→er≠0→Tm.jB (sk++[(L,R)]) (Tm.ways sk.length) (2 * m+1) l'→Tm.dS (sk++[(L,R)]) (sk.length:Int) (m:Int) er qs→Tm.gV (sk++[(L,R)]) (Tm.ways sk.length) er []):=fun er qs l' h he hl hs=>.inr ⟨he,rfl,2 * m+1,qs,by have:=hwl.out;omega,⟨l',hl⟩,by rw [Tm.KH h];exact hs⟩
      have hX0:=hid (Below.refl X.heap.size X);clear hto hR6;by_cases X7:m = sk.length
      ·have agz:((m:Int) == (sk.length:Int)) = true:=by simp [X7]
       have Hmn:=hid X7;clear X7;go_wp2_with fail;refine (hof.out X hX0.out m sk.length hm (Nat.le_refl _)).mono ?_;rintro e w6 ⟨b6,er,qs,v6,hs6,rfl,IM⟩;obtain ⟨a7,c7,rfl,_⟩:=IM.at;have I6:=hid (hI.out.below (Nat.le_refl _) b6);have M6:=hid (gG.x (eb:=w.heap.size) IM);have Wz:w.heap.size≤w6.heap.size:=I6.out.kp.size;clear IM hI hof;by_cases he:er = 0
       ·subst he
        have Mq:=hs6.len.2;have hLs:Hid (Tm.gV (sk++[(L,R)]) (Tm.ways sk.length) 0 (l++qs)):=by
         have h:=hnx.out qs hs6;rw [Hmn.out,← hwl.out] at h;exact .inl ⟨rfl,h⟩
        clear hs6 hnx hst QL;by_cases Mr:40 < (pt++(l++qs)).length
        ·have YJ:(40:Int) < (pt.length:Int)+(l.length:Int)+(qs.length:Int):=by rw [List.length_append,List.length_append] at Mr;omega
         have Hs:=hid (hS.out 2 [] [] (.inr ⟨by omega,0,l++qs,hLs.out,.inr (.inl ⟨rfl,Mr,rfl,rfl,rfl⟩)⟩));clear Mr hS hLs;rw [List.length_append];go_wp2_with (at_builtin;go_loud (refine ku _ rfl _ _ rfl w.heap.size w.heap.size (Nat.le_refl _) (.slice ea (pt.length+l.length) ec) (pt++l) rfl (by rw [← List.length_append];exact I6.out.ne) _ qs rfl X.heap.size M6.out (by rw [List.length_append];omega) Wz ?_);intro v8 w8 yD Rv rJ;obtain ⟨a8,c8,e8⟩:=yD.slice;rw [List.length_append,List.length_append] at e8;subst e8)
         go_ret3
         exact ⟨2,[],[],_,_,Hs.out,rfl,aU.nil _ _ _ _,aU.nil _ _ _ _,I6.out.kp.trans rJ⟩
        ·have YJ:¬ (40:Int) < (pt.length:Int)+(l.length:Int)+(qs.length:Int):=by rw [List.length_append,List.length_append] at Mr;omega
         have Hs:=hid (hS.out 0 (sk++[(L,R)]) (pt++(l++qs)) (.inr ⟨by omega,0,l++qs,hLs.out,.inr (.inr ⟨rfl,by omega,rfl,rfl,rfl⟩)⟩));clear Mr hS hLs;rw [List.length_append];go_wp2_with (at_builtin;go_loud (refine ku _ rfl _ _ rfl w.heap.size w.heap.size (Nat.le_refl _) (.slice ea (pt.length+l.length) ec) (pt++l) rfl (by rw [← List.length_append];exact I6.out.ne) _ qs rfl X.heap.size M6.out (by rw [List.length_append];omega) Wz ?_);intro v8 w8 yD Rv rJ;have I8:=hid (I6.out.pair (by rw [List.length_append];exact Rv) rJ yD);obtain ⟨a8,c8,e8⟩:=yD.slice;rw [List.length_append,List.length_append] at e8;subst e8;clear yD Rv rJ)
         go_ret3
         exact ⟨0,_,_,_,_,Hs.out,rfl,I8.out.ns.mono (by omega),(by rw [← List.append_assoc];exact I8.out.ne),I8.out.kp⟩
       ·have hne:(er != 0) = true:=by simpa using he
        have Hs:=hid (hS.out er [] [] (.inr ⟨by omega,er,[],hst.out er qs he hs6,.inl ⟨he,rfl,rfl,rfl⟩⟩));clear he hS hs6 hnx hst QL;go_wp2;go_ret3
        exact ⟨er,[],[],_,_,Hs.out,rfl,aU.nil _ _ _ _,aU.nil _ _ _ _,I6.out.kp⟩
      ·have agz:((m:Int) == (sk.length:Int)) = false:=by rw [beq_eq_false_iff_ne];omega
       have ac0:m < sk.length:=by omega
       clear X7;go_wp2_with fail;refine (hof.out X hX0.out m sk.length hm (Nat.le_refl _)).mono ?_;rintro e w6 ⟨b6,er,qs,v6,hs6,rfl,IM⟩;obtain ⟨a7,c7,rfl,_⟩:=IM.at;have I6:=hid (hI.out.below (Nat.le_refl _) b6);have M6:=hid (gG.x (eb:=w.heap.size) IM);have Wz:w.heap.size≤w6.heap.size:=I6.out.kp.size;clear IM hI hof;by_cases he:er = 0
       ·subst he
        have Mq:=hs6.len.2;have hT1:=hid (hnx.out qs hs6);clear hs6 hnx hst;rw [List.length_append];go_wp2_with (first
         | (at_builtin;go_loud (refine ku _ rfl _ _ rfl w.heap.size w.heap.size (Nat.le_refl _) (.slice ea (pt.length+l.length) ec) (pt++l) rfl (by rw [← List.length_append];exact I6.out.ne) _ qs rfl X.heap.size M6.out (by rw [List.length_append];omega) Wz ?_);intro v8 w8 yD Rv rJ;have I8:=hid (I6.out.pair (by rw [List.length_append];exact Rv) rJ yD);obtain ⟨a8,c8,e8⟩:=yD.slice;rw [List.length_append,List.length_append] at e8;subst e8;clear yD Rv rJ)
         | (go_at_call 88;fail))
        obtain ⟨a9,c9,e9,hR9,_⟩:=I8.out.ns.at;rw [hlr.out] at e9;cases e9;have Zp:=hid (Cf (sk++[(L,R)]) sk.length m (by rw [hlr.out];omega) (by rw [hlr.out];omega) (some ⟨Xy,0,none⟩) Xz w8 hre.out hR9);rw [hlr.out] at Zp;have hnx2:=hid (fun qs' (hs:Tm.dS (sk++[(L,R)]) (sk.length:Int) (m:Int) 0 qs')=>hT1.out.next (ps:=qs') (by rw [Tm.KH ac0];exact hs));clear hR9 I6 M6;refine Zp.out.mono ?_;rintro e w9 ⟨b9,er,qs2,v9,El,rfl,SS⟩;obtain ⟨a10,c10,rfl,_⟩:=SS.at;have I9:=hid (I8.out.below (Nat.le_refl _) b9);have M9:=hid (gG.x (eb:=w.heap.size) SS);have agA:w.heap.size≤w9.heap.size:=I9.out.kp.size;clear SS Zp I8;by_cases he:er = 0
        ·subst he
         have alU:=El.len.2;have Bu:=hid (hnx2.out qs2 El);clear El hnx2 QL hT1;go_wp2_with (at_builtin;go_loud (refine ku _ rfl _ _ rfl w.heap.size w.heap.size (Nat.le_refl _) (.slice a8 (pt.length+l.length+qs.length) c8) (pt++l++qs) rfl I9.out.ne _ qs2 rfl w8.heap.size M9.out (by rw [List.length_append,List.length_append];omega) agA ?_);intro v11 alV Zq ac2 Ui;have I11:=hid (I9.out.pair ac2 Ui Zq);obtain ⟨a11,c11,e11⟩:=Zq.slice;rw [List.length_append,List.length_append,List.length_append] at e11;subst e11;clear Zq ac2 Ui)
         go_roundw
         case rel=>exact ⟨m+1,l++qs++qs2,by omega,by go_num,⟨a11,c11,by simp [Nat.add_assoc]⟩,Bu,by have h:=I11.out;simpa [Hid,List.append_assoc,Nat.add_assoc] using h⟩
         case measure=>simp [intOf];omega
        ·have hne:(er != 0) = true:=by simpa using he
         have Hs:=hid (hS.out er [] [] (.inr ⟨by omega,er,[],QL.out er qs2 _ ac0 he hT1.out El,.inl ⟨he,rfl,rfl,rfl⟩⟩));clear he hS El hnx2 QL;go_wp2;go_ret3
         exact ⟨er,[],[],_,_,Hs.out,rfl,aU.nil _ _ _ _,aU.nil _ _ _ _,I9.out.kp⟩
       ·have hne:(er != 0) = true:=by simpa using he
        have Hs:=hid (hS.out er [] [] (.inr ⟨by omega,er,[],hst.out er qs he hs6,.inl ⟨he,rfl,rfl,rfl⟩⟩));clear he hS hs6 hnx hst QL;go_wp2;go_ret3
        exact ⟨er,[],[],_,_,Hs.out,rfl,aU.nil _ _ _ _,aU.nil _ _ _ _,I6.out.kp⟩
theorem KJ {ops:Array Oper} {o:Oper} {a:Act} {K:Act→World→Prop} {Q:Exit→Act→World→Prop} {E:Prop} (w:World) (hgd:o.guard = none) (s x:Operand)
 (ho:o.op = .call { callee:=.builtin .append,args:=#[s,x],argTypes:=#[23,23] }) (sb eb:Nat) (hse:eb≤sb) (v:Value) (ps:ah) (hs:a.eval s = v) (hN:aU true 54 sb eb w v ps)
 (a2:Option Addr) (c2:Nat) (qs:ah) (hx:a.eval x = .slice a2 qs.length c2) (hn:a2 = none→c2 = 0) (hM:aJ eb w a2 qs) (Uk:eb≤w.heap.size) (hlen:ps.length+qs.length≤100000) (hbase:sb≤w.heap.size)
 (h:∀ v' w',aU true 54 sb eb w' v' (ps++qs)→w.grownBy w' v.ownBlock→Below sb w w'→K (a.put o.dst v') w') :
 if Region.wanted o (yielded ops a.tmps) = true then Oper.wp Tryz.prog o a w K Q else E:=by
 have hwt:Region.wanted o (yielded ops a.tmps) = true:=by simp [Region.wanted,hgd]
 rw [if_pos hwt];obtain ⟨i0,hi,hz0,hz1,hz2⟩:=info_parts Tryz.Em;obtain ⟨us,h1,h2⟩:=hN;have zi:us.length = ps.length * 2:=h1.1;cases a2 with
 | none =>
  have hc:=hn rfl;obtain rfl:qs = []:=by
   cases qs with
   | nil=>rfl
   | cons q l=>obtain ⟨b,off,e,_⟩:=hM 0 (by simp);cases e
  subst hc;have hrun:=run_append_owned_none (P:=Tryz.prog) (w:=w) sb 23 o.type 54 i0 2 Tryz.underlying23 hi v ps.length us h1;have hx':a.eval x = .slice none 0 0:=hx;unfold Oper.wp;simp [execOp,ho,resolve,invoke,builtin,hs,hx',hrun,Result.andThen];exact h v w (by rw [List.append_nil];exact ⟨us,h1,h2⟩) ⟨rfl,rfl,rfl,Nat.le_refl _,fun _ _ _=>rfl⟩ (Below.refl _ _)
 | some ad =>
  obtain ⟨qI,hu1,hu2,hu3,Zn⟩:=pM hM;refine wp_append_own w s x 23 ho sb 54 i0 (.agg #[.slice none 0 0,.slice none 0 0]) 2 48 Tryz.underlying23 hi hz0 hz1 hz2 rfl (by decide) v ps.length us hs h1 ad qs.length c2 qI hx hu1 hu2
   (by intro u hu;obtain ⟨_,_,_,rfl⟩:=hu3 u hu;rfl) (by unfold maxLen;omega) (by omega) hbase ?_
  intro v' w' hown hg _;have hr:∀ k,v.ownBlock = some k→eb≤k∧∃ cs,w.heap[k]? = some (.cells cs 54 (0,0)):=fun k hk=>⟨Nat.le_trans hse (World.ownsRow.lt h1 k hk).1,ji h1 hk⟩
  have hk:∀ {a:Option Addr} {zs:List Int},bX true eb w a zs→bX true eb w' a zs:=fun h=>h.grown (by decide) hg hr
  refine h v' w' ⟨us++qI,by simpa using hown,fun j hj=>?_⟩ hg ((Below.refl sb w).grown hg hbase (fun k e=>(World.ownsRow.lt h1 k e).1));by_cases hjl:j < ps.length
  ·obtain ⟨y,yc,y',ry,q1,q2,n1,n2,r⟩:=h2 j hjl
   rw [List.getElem?_append_left hjl,List.getElem?_append_left (by omega),List.getElem?_append_left (by omega)];exact ⟨y,yc,y',ry,q1,q2,hk n1,hk n2,r⟩
  ·have hj2:j - ps.length < qs.length:=by rw [List.length_append] at hj;omega
   obtain ⟨y,yc,y',ry,q1,q2,n1,n2,r⟩:=Zn (j - ps.length) hj2;rw [List.getElem?_append_right (by omega),List.getElem?_append_right (by omega),List.getElem?_append_right (by omega),zi];rw [show j * 2 - ps.length * 2 = (j - ps.length) * 2 by omega,show j * 2+1 - ps.length * 2 = (j - ps.length) * 2+1 by omega];exact ⟨y,yc,y',ry,q1,q2,hk (bX.old n1 Uk (Below.refl _ _)),hk (bX.old n2 Uk (Below.refl _ _)),r⟩
theorem KL {ops:Array Oper} {o:Oper} {a:Act} {K:Act→World→Prop} {Q:Exit→Act→World→Prop} {E:Prop} (w:World) (hgd:o.guard = none) (s x:Operand)
 (ho:o.op = .call { callee:=.builtin .append,args:=#[s,x],argTypes:=#[24,24] }) (sb eb:Nat) (hse:eb≤sb) (v:Value) (ps:ah) (hs:a.eval s = v) (hN:aU true 40 sb eb w v ps)
 (a2:Option Addr) (c2:Nat) (qs:ah) (hx:a.eval x = .slice a2 qs.length c2) (hn:a2 = none→c2 = 0) (hM:aJ eb w a2 qs) (Uk:eb≤w.heap.size) (hlen:ps.length+qs.length≤100000) (hbase:sb≤w.heap.size)
 (h:∀ v' w',aU true 40 sb eb w' v' (ps++qs)→w.grownBy w' v.ownBlock→Below sb w w'→K (a.put o.dst v') w') :
 if Region.wanted o (yielded ops a.tmps) = true then Oper.wp Tryz.prog o a w K Q else E:=by
 have hwt:Region.wanted o (yielded ops a.tmps) = true:=by simp [Region.wanted,hgd]
 rw [if_pos hwt];obtain ⟨i0,hi,hz0,hz1,hz2⟩:=info_parts Tryz.mH;obtain ⟨us,h1,h2⟩:=hN;have zi:us.length = ps.length * 2:=h1.1;cases a2 with
 | none =>
  have hc:=hn rfl;obtain rfl:qs = []:=by
   cases qs with
   | nil=>rfl
   | cons q l=>obtain ⟨b,off,e,_⟩:=hM 0 (by simp);cases e
  subst hc;have hrun:=run_append_owned_none (P:=Tryz.prog) (w:=w) sb 24 o.type 40 i0 2 Tryz.underlying24 hi v ps.length us h1;have hx':a.eval x = .slice none 0 0:=hx;unfold Oper.wp;simp [execOp,ho,resolve,invoke,builtin,hs,hx',hrun,Result.andThen];exact h v w (by rw [List.append_nil];exact ⟨us,h1,h2⟩) ⟨rfl,rfl,rfl,Nat.le_refl _,fun _ _ _=>rfl⟩ (Below.refl _ _)
 | some ad =>
  obtain ⟨qI,hu1,hu2,hu3,Zn⟩:=pM hM;refine wp_append_own w s x 24 ho sb 40 i0 (.agg #[.slice none 0 0,.slice none 0 0]) 2 48 Tryz.underlying24 hi hz0 hz1 hz2 rfl (by decide) v ps.length us hs h1 ad qs.length c2 qI hx hu1 hu2
   (by intro u hu;obtain ⟨_,_,_,rfl⟩:=hu3 u hu;rfl) (by unfold maxLen;omega) (by omega) hbase ?_
  intro v' w' hown hg _;have hr:∀ k,v.ownBlock = some k→eb≤k∧∃ cs,w.heap[k]? = some (.cells cs 40 (0,0)):=fun k hk=>⟨Nat.le_trans hse (World.ownsRow.lt h1 k hk).1,ji h1 hk⟩
  have hk:∀ {a:Option Addr} {zs:List Int},bX true eb w a zs→bX true eb w' a zs:=fun h=>h.grown (by decide) hg hr
  refine h v' w' ⟨us++qI,by simpa using hown,fun j hj=>?_⟩ hg ((Below.refl sb w).grown hg hbase (fun k e=>(World.ownsRow.lt h1 k e).1));by_cases hjl:j < ps.length
  ·obtain ⟨y,yc,y',ry,q1,q2,n1,n2,r⟩:=h2 j hjl
   rw [List.getElem?_append_left hjl,List.getElem?_append_left (by omega),List.getElem?_append_left (by omega)];exact ⟨y,yc,y',ry,q1,q2,hk n1,hk n2,r⟩
  ·have hj2:j - ps.length < qs.length:=by rw [List.length_append] at hj;omega
   obtain ⟨y,yc,y',ry,q1,q2,n1,n2,r⟩:=Zn (j - ps.length) hj2;rw [List.getElem?_append_right (by omega),List.getElem?_append_right (by omega),List.getElem?_append_right (by omega),zi];rw [show j * 2 - ps.length * 2 = (j - ps.length) * 2 by omega,show j * 2+1 - ps.length * 2 = (j - ps.length) * 2+1 by omega];exact ⟨y,yc,y',ry,q1,q2,hk (bX.old n1 Uk (Below.refl _ _)),hk (bX.old n2 Uk (Below.refl _ _)),r⟩
def iV (V X:World):Prop:=V.heap = X.heap∧V.os = X.os∧V.tape = X.tape∧V.output = X.output
theorem iV.below {b:Nat} {w X V:World} (h:iV V X) (hB:Below b w X):Below b w V:=⟨h.2.1.trans hB.os,h.2.2.1.trans hB.tape,h.2.2.2.trans hB.output,by rw [h.1];exact hB.size,fun k hk=>by rw [h.1];exact hB.block k hk⟩
def jq (e:TypeId) (b:Nat) (w V:World) (B:Nat):Prop:=(V.heap[B]? = some (.cells #[] e (0,0))∧b≤B)∧Below b w V
theorem jq.lit {e:TypeId} {b B:Nat} {w V:World} (h:jq e b w V B):aU true e b b V (.slice (some ⟨B,0,none⟩) 0 0) [] :=
 ⟨[],⟨rfl,.inr ⟨B,0,#[],rfl,h.1.2,h.1.1,Nat.le_refl _,by unfold maxLen;omega,rfl,rfl⟩⟩,fun j hj=>by simp at hj⟩
theorem jq.new (e:TypeId) {b:Nat} {w X:World} (h:Below b w X) (hb:b≤X.heap.size):jq e b w (X.alloc (.cells #[] e)) X.heap.size:=⟨⟨World.alloc_heap_new X _,hb⟩,h.alloc hb _⟩
theorem jq.alloc {e:TypeId} {b B:Nat} {w V:World} (h:jq e b w V B) (hb:b≤V.heap.size) (o:Obj):jq e b w (V.alloc o) B:=⟨⟨(Below.heap_alloc V o B (Array.getElem?_eq_some_iff.1 h.1.1).1).trans h.1.1,h.1.2⟩,h.2.alloc hb o⟩
theorem jq.same {e:TypeId} {b B:Nat} {w V X:World} (h:jq e b w X B) (hV:iV V X):jq e b w V B:=⟨⟨by rw [hV.1];exact h.1.1,h.1.2⟩,hV.below h.2⟩
theorem EN {ops:Array Oper} {o:Oper} {a:Act} {K:Act→World→Prop} {Q:Exit→Act→World→Prop} {E:Prop} (V:World) (hgd:o.guard = none) (s x:Operand)
 (ho:o.op = .call { callee:=.builtin .append,args:=#[s,x],argTypes:=#[23,23] }) (b B:Nat) (w:World) (hs:a.eval s = .slice (some ⟨B,0,none⟩) 0 0) (q:jq 54 b w V B)
 (a2:Option Addr) (c2:Nat) (qs:ah) (hx:a.eval x = .slice a2 qs.length c2) (hn:a2 = none→c2 = 0) (hM:∀ V,Below b w V→aJ b V a2 qs) (hbw:b≤w.heap.size) (hlen:qs.length≤1000)
 (h:∀ v' w',aU true 54 b b w' v' qs→(∀ v2 l2,aU true 40 b b V v2 l2→aU true 40 b b w' v2 l2)→(∀ C,jq 40 b w V C→jq 40 b w w' C)→Below b w w'→K (a.put o.dst v') w') :
 if Region.wanted o (yielded ops a.tmps) = true then Oper.wp Tryz.prog o a V K Q else E:=by
 have Lh:b≤V.heap.size:=Nat.le_trans hbw q.2.size;refine KJ V hgd s x ho b b (Nat.le_refl _) (.slice (some ⟨B,0,none⟩) 0 0) [] hs q.lit a2 c2 qs hx hn (hM V q.2) Lh (by simp;omega) Lh ?_;intro v' w' hN hg hB;have hr:∀ k,(Value.slice (some ⟨B,0,none⟩) 0 0).ownBlock = some k→b≤k∧∃ cs,V.heap[k]? = some (.cells cs 54 (0,0)):=fun k hk=>by
  cases hk;exact ⟨q.1.2,_,q.1.1⟩
 refine h v' w' (by rwa [List.nil_append] at hN) (fun v2 l2 h2=>h2.grown (e':=54) (by decide) hg fun k hk=>⟨(hr k hk).1,(hr k hk).2,fun e1=>?_⟩) (fun C hC=>⟨⟨(hg.block C (Array.getElem?_eq_some_iff.1 hC.1.1).1 fun e1=>?_).trans hC.1.1,hC.1.2⟩,q.2.trans hB⟩) (q.2.trans hB)
 ·obtain ⟨_,_,cs,hc⟩:=h2.block e1
  obtain ⟨cs',hc'⟩:=(hr k hk).2;rw [hc] at hc';simp only [Option.some.injEq,Obj.cells.injEq] at hc';exact absurd hc'.2.1 (by decide)
 ·cases e1
  have h1:=hC.1.1;rw [q.1.1] at h1;simp only [Option.some.injEq,Obj.cells.injEq] at h1;exact absurd h1.2.1 (by decide)
theorem EO {ops:Array Oper} {o:Oper} {a:Act} {K:Act→World→Prop} {Q:Exit→Act→World→Prop} {E:Prop} (V:World) (hgd:o.guard = none) (s x:Operand)
 (ho:o.op = .call { callee:=.builtin .append,args:=#[s,x],argTypes:=#[24,24] }) (b B:Nat) (w:World) (hs:a.eval s = .slice (some ⟨B,0,none⟩) 0 0) (q:jq 40 b w V B)
 (a2:Option Addr) (c2:Nat) (qs:ah) (hx:a.eval x = .slice a2 qs.length c2) (hn:a2 = none→c2 = 0) (hM:∀ V,Below b w V→aJ b V a2 qs) (hbw:b≤w.heap.size) (hlen:qs.length≤1000)
 (h:∀ v' w',aU true 40 b b w' v' qs→(∀ v2 l2,aU true 54 b b V v2 l2→aU true 54 b b w' v2 l2)→(∀ C,jq 54 b w V C→jq 54 b w w' C)→Below b w w'→K (a.put o.dst v') w') :
 if Region.wanted o (yielded ops a.tmps) = true then Oper.wp Tryz.prog o a V K Q else E:=by
 have Lh:b≤V.heap.size:=Nat.le_trans hbw q.2.size;refine KL V hgd s x ho b b (Nat.le_refl _) (.slice (some ⟨B,0,none⟩) 0 0) [] hs q.lit a2 c2 qs hx hn (hM V q.2) Lh (by simp;omega) Lh ?_;intro v' w' hN hg hB;have hr:∀ k,(Value.slice (some ⟨B,0,none⟩) 0 0).ownBlock = some k→b≤k∧∃ cs,V.heap[k]? = some (.cells cs 40 (0,0)):=fun k hk=>by
  cases hk;exact ⟨q.1.2,_,q.1.1⟩
 refine h v' w' (by rwa [List.nil_append] at hN) (fun v2 l2 h2=>h2.grown (e':=40) (by decide) hg fun k hk=>⟨(hr k hk).1,(hr k hk).2,fun e1=>?_⟩) (fun C hC=>⟨⟨(hg.block C (Array.getElem?_eq_some_iff.1 hC.1.1).1 fun e1=>?_).trans hC.1.1,hC.1.2⟩,q.2.trans hB⟩) (q.2.trans hB)
 ·obtain ⟨_,_,cs,hc⟩:=h2.block e1
  obtain ⟨cs',hc'⟩:=(hr k hk).2;rw [hc] at hc';simp only [Option.some.injEq,Obj.cells.injEq] at hc';exact absurd hc'.2.1 (by decide)
 ·cases e1
  have h1:=hC.1.1;rw [q.1.1] at h1;simp only [Option.some.injEq,Obj.cells.injEq] at h1;exact absurd h1.2.1 (by decide)
theorem jq.agB {b B:Nat} {w V:World} (h:jq 3 b w V B):New b V (.slice (some ⟨B,0,none⟩) 0 0) [] :=
 ⟨rfl,.inr ⟨B,0,#[],rfl,h.1.2,h.1.1,Nat.le_refl _,by unfold maxLen;omega,rfl,rfl⟩⟩
theorem ER {ops:Array Oper} {o:Oper} {a:Act} {K:Act→World→Prop} {Q:Exit→Act→World→Prop} {E:Prop} (V:World) (hgd:o.guard = none) (s x:Operand)
 (ho:o.op = .call { callee:=.builtin .append,args:=#[s,x],argTypes:=#[35,35] }) (b B:Nat) (w:World) (hs:a.eval s = .slice (some ⟨B,0,none⟩) 0 0) (q:jq 3 b w V B)
 (ad:Addr) (ys:List Int) (c:Nat) (hx:a.eval x = .slice (some ad) ys.length c) (hp:0 < ys.length) (hI:∀ V,Below b w V→Ints b V (some ad) ys) (hbw:b≤w.heap.size) (hlen:ys.length≤1000)
 (h:∀ g c' w',New b w' (.slice (some ⟨g,0,none⟩) ys.length c') ys→(∀ C,C≠B→jq 3 b w V C→jq 3 b w w' C∧g≠C)→(∀ g2 n2 c2 l2,g2≠B→New b V (.slice (some ⟨g2,0,none⟩) n2 c2) l2→New b w' (.slice (some ⟨g2,0,none⟩) n2 c2) l2)→Below b w w'→(∀ q,q < V.heap.size→q≠B→w'.heap[q]? = V.heap[q]?)→K (a.put o.dst (.slice (some ⟨g,0,none⟩) ys.length c')) w') :
 if Region.wanted o (yielded ops a.tmps) = true then Oper.wp Tryz.prog o a V K Q else E:=by
 have Lh:b≤V.heap.size:=Nat.le_trans hbw q.2.size;obtain ⟨i0,hi,hz0,hz1,hz2⟩:=info_parts Tryz.info3;refine step_append_lies V hgd s x 35 ho b 3 i0 (.int .i64 0) 1 8 Tryz.underlying35 hi hz0 hz1 hz2 rfl (by decide) (.slice (some ⟨B,0,none⟩) 0 0) 0 [] hs q.agB ad ys.length c (ys.map (Value.int .i64)) hx (by simp) ((hI V q.2).mono Lh).news
  (by intro u hu;simp at hu;obtain ⟨z,_,rfl⟩:=hu;rfl) hp (by unfold maxLen;omega) (by omega) Lh V.heap.size rfl ?_
 intro g c' w' hown hg hor _;rw [Nat.zero_add] at hown ⊢;have hB:Below b V w':=(Below.refl b V).grown hg Lh (fun k e=>by cases e;exact q.1.2);have hgC:∀ C,C≠B→C < V.heap.size→g≠C:=fun C hC hlt e=>by
  rcases hor with h1 | h1
  ·cases h1;exact hC e.symm
  ·omega
 refine h g c' w' ?_ (fun C hC hR=>⟨⟨⟨(hg.block C (Array.getElem?_eq_some_iff.1 hR.1.1).1 fun e1=>?_).trans hR.1.1,hR.1.2⟩,q.2.trans hB⟩,hgC C hC (Array.getElem?_eq_some_iff.1 hR.1.1).1⟩) (fun g2 n2 c2 l2 h2 hN=>⟨hN.1,?_⟩) (q.2.trans hB) (fun r hr hne=>hg.block r hr fun e1=>by cases e1;exact hne rfl)
 ·show w'.ownsRow b 3 1 _ ys.length (ys.map (Value.int .i64))
  simpa using hown
 ·cases e1;exact hC rfl
 ·rcases hN.2 with ⟨h3,_⟩ | ⟨g3,cap,cur,e3,k1,k2,k3⟩
  ·cases h3
  ·cases e3
   exact .inr ⟨_,_,cur,rfl,k1,(hg.block _ (Array.getElem?_eq_some_iff.1 k2).1 fun e1=>by cases e1;exact h2 rfl).trans k2,k3⟩
section
theorem sN {P:Program} {md:Region.Mode} {ops:Array Oper} {Q:Exit→Act→World→Prop} {S:World→Prop} (I:Nat→Array Bool→Act→World→Prop)
 (hn:∀ n l a w,I n l a w→Region.ready md ops l = []→Q .normal a w) (h0:∀ l a w,I 0 l a w→Region.ready md ops l = [])
 (hs:∀ n l a w,I (n+1) l a w→∀ i∈Region.ready md ops l,wpOp P ops Q i (fun a' w'=>S w'∧I n (l.setIfInBounds i true) a' w') a w) :
 ∀ n l a w,I n l a w→wpAnyH P md ops Q S n l a w
 | 0,l,a,w,h=>⟨h0 l a w h,hn 0 l a w h (h0 l a w h)⟩
 | n+1,l,a,w,h=>⟨hn _ l a w h,fun i hi=>wpOp_mono (fun a' w' h'=>⟨h'.1,sN I hn h0 hs n _ a' w' h'.2⟩) (hs n l a w h i hi)⟩
def F6 (A:Act) (Fh Jr Fj x82 x83 x8:Value):Act:=(((((A.put (some 71) Fh).put (some 76) Jr).put (some 77) Fj).put (some 82) x82).put (some 83) x83).put (some 8) x8
theorem oG (A:Act) (d:Nat) (x y:Value):(A.put (some d) x).put (some d) y = A.put (some d) y:=by
 simp [Act.put]
theorem fQ (A:Act) {d e:Nat} (h:d≠e) (x y:Value):(A.put (some d) x).put (some e) y = (A.put (some e) y).put (some d) x:=Act.put_comm A x y (fun _ h1 h2=>by cases h1;cases h2;exact h rfl)
theorem eval_put (A:Act) {d:Nat} (h:d < A.tmps.size) (x:Value):(A.put (some d) x).eval (.tmp d) = x:=by
 simp [Act.put,Act.eval,h]
theorem Un (A:Act) {d e:Nat} (h:d≠e) (x:Value):(A.put (some d) x).eval (.tmp e) = A.eval (.tmp e):=by
 simp [Act.put,Act.eval,h]
theorem size_put (A:Act) (d:Option Nat) (x:Value):(A.put d x).tmps.size = A.tmps.size:=by
 cases d <;> simp [Act.put]
section
variable (A:Act) (a b c d e f v:Value)
theorem F6.p71:(F6 A a b c d e f).put (some 71) v = F6 A v b c d e f:=by
 unfold F6;rw [fQ _ (d:=8) (e:=71) (by decide),fQ _ (d:=83) (e:=71) (by decide),fQ _ (d:=82) (e:=71) (by decide),fQ _ (d:=77) (e:=71) (by decide),fQ _ (d:=76) (e:=71) (by decide),oG]
theorem F6.p76:(F6 A a b c d e f).put (some 76) v = F6 A a v c d e f:=by
 unfold F6;rw [fQ _ (d:=8) (e:=76) (by decide),fQ _ (d:=83) (e:=76) (by decide),fQ _ (d:=82) (e:=76) (by decide),fQ _ (d:=77) (e:=76) (by decide),oG]
theorem F6.p77:(F6 A a b c d e f).put (some 77) v = F6 A a b v d e f:=by
 unfold F6;rw [fQ _ (d:=8) (e:=77) (by decide),fQ _ (d:=83) (e:=77) (by decide),fQ _ (d:=82) (e:=77) (by decide),oG]
theorem F6.p82:(F6 A a b c d e f).put (some 82) v = F6 A a b c v e f:=by
 unfold F6;rw [fQ _ (d:=8) (e:=82) (by decide),fQ _ (d:=83) (e:=82) (by decide),oG]
theorem F6.p83:(F6 A a b c d e f).put (some 83) v = F6 A a b c d v f:=by
 unfold F6;rw [fQ _ (d:=8) (e:=83) (by decide),oG]
theorem F6.p8:(F6 A a b c d e f).put (some 8) v = F6 A a b c d e v:=oG _ _ _ _
theorem F6.ac3 (h:83 < A.tmps.size):(F6 A a b c d e f).eval (.tmp 71) = a∧(F6 A a b c d e f).eval (.tmp 76) = b∧(F6 A a b c d e f).eval (.tmp 77) = c∧(F6 A a b c d e f).eval (.tmp 82) = d∧(F6 A a b c d e f).eval (.tmp 83) = e∧(F6 A a b c d e f).eval (.tmp 8) = f∧(F6 A a b c d e f).eval (.tmp 75) = A.eval (.tmp 75)∧(F6 A a b c d e f).eval (.tmp 81) = A.eval (.tmp 81):=by
 unfold F6;refine ⟨?_,?_,?_,?_,?_,?_,?_,?_⟩ <;> repeat (first | (rw [Un _ (by decide)]) | (rw [eval_put _ (by (try simp only [size_put]);omega)]))
end
def Zr (b:Nat) (w V:World) (p g:Nat) (x1 x2:Value) (P:List Int):Prop :=
 (p = 0∨(p = 1∧x1 = .slice (some ⟨g,0,none⟩) 0 0∧jq 3 b w V g)∨(p = 2∧∃ c,x2 = .slice (some ⟨g,0,none⟩) P.length c∧New b V x2 P))
theorem Zr.keep {b:Nat} {w V W:World} {p g:Nat} {x1 x2:Value} {P:List Int} (h:Zr b w V p g x1 x2 P) (hB:Below b w W) (hk:p≠0→W.heap[g]? = V.heap[g]?):Zr b w W p g x1 x2 P:=by
 rcases h with h | ⟨h,e,r⟩ | ⟨h,c,e,n⟩
 ·exact .inl h
 ·exact .inr (.inl ⟨h,e,⟨(hk (by omega)).trans r.1.1,r.1.2⟩,hB⟩)
 ·refine .inr (.inr ⟨h,c,e,?_⟩)
  subst e;rcases n.2 with ⟨h3,_⟩ | ⟨g3,cap,cur,e3,k1,k2,k3⟩
  ·cases h3
  ·cases e3
   exact ⟨n.1,.inr ⟨_,_,cur,rfl,k1,(hk (by omega)).trans k2,k3⟩⟩
theorem Zr.lt {b:Nat} {w V:World} {p g:Nat} {x1 x2:Value} {P:List Int} (h:Zr b w V p g x1 x2 P) (hp:p≠0):g < V.heap.size∧∃ cs q,V.heap[g]? = some (.cells cs 3 q):=by
 rcases h with h | ⟨h,e,r⟩ | ⟨h,c,e,n⟩
 ·exact absurd h hp
 ·exact ⟨(Array.getElem?_eq_some_iff.1 r.1.1).1,_,_,r.1.1⟩
 ·subst e
  rcases n.2 with ⟨h3,_⟩ | ⟨g3,cap,cur,e3,k1,k2,k3⟩
  ·cases h3
  ·cases e3
   exact ⟨(Array.getElem?_eq_some_iff.1 k2).1,_,_,k2⟩
def lst (p q r s t:Nat):Array Bool:=#[decide (1≤p),true,true,true,true,decide (2≤p),decide (1≤q),true,true,true,true,decide (2≤q),decide (1≤s),decide (1≤r),decide (1≤t)]
def nxt (p q r s t:Nat):List Nat :=
 (if p = 0 then [0] else [])++(if p = 1 then [5] else [])++(if q = 0 then [6] else [])++(if q = 1∧p = 2 then [11] else [])++(if s = 0∧p = 2∧q = 2 then [12] else [])++(if r = 0 then [13] else [])++(if t = 0∧s = 1∧r = 1 then [14] else [])
def Cx (ops:Array Oper):Bool:=(List.range 3).all fun p=>(List.range 3).all fun q=>(List.range 2).all fun r=>(List.range 2).all fun s=>(List.range 2).all fun t =>
 if (q = 2→p = 2)∧(s = 1→p = 2∧q = 2)∧(t = 1→s = 1∧r = 1) then Region.ready .any ops (lst p q r s t) == nxt p q r s t else true
theorem Cx.out {ops:Array Oper} (h:Cx ops = true) {p q r s t:Nat} (hp:p≤2) (hq:q≤2) (hr:r≤1) (hs:s≤1) (ht:t≤1) (h0:q = 2→p = 2) (h1:s = 1→p = 2∧q = 2) (h2:t = 1→s = 1∧r = 1):Region.ready .any ops (lst p q r s t) = nxt p q r s t:=by
 unfold Cx at h;have:=List.all_eq_true.1 (List.all_eq_true.1 (List.all_eq_true.1 (List.all_eq_true.1 (List.all_eq_true.1 h p (List.mem_range.2 (by omega))) q (List.mem_range.2 (by omega))) r (List.mem_range.2 (by omega))) s (List.mem_range.2 (by omega))) t (List.mem_range.2 (by omega))
 rw [if_pos ⟨h0,h1,h2⟩] at this;exact eq_of_beq this
structure Two (b:Nat) (w:World) (A:Act) (P Q:List Int) (n:Nat) (l:Array Bool) (a:Act) (V:World) (p q r s t g h k:Nat) (Fh Jr Fj x82 x83 x8:Value):Prop where
 l:l = lst p q r s t
 a:a = F6 A Fh Jr Fj x82 x83 x8
 n:n+p+q+r+s+t = 7
 le:p≤2∧q≤2∧r≤1∧s≤1∧t≤1
 hq:q = 2→p = 2
 hs:s = 1→p = 2∧q = 2
 ht:t = 1→s = 1∧r = 1
 B:Below b w V
 P:Zr b w V p g Fh Jr P
 Q:Zr b w V q h Fj x82 Q
 ne:p≠0→q≠0→(p = 1∨q = 1)→g≠h
 s:s = 1→x83 = .agg #[Jr,x82]
 r:r = 1→x8 = .pointer (some ⟨k,0,none⟩)∧b≤k∧∃ y z,V.heap[k]? = some (.cells #[y,z] 40 (0,0))∧(t = 1→y = Jr∧z = x82)
theorem Pp {o:Oper} {a:Act} {V:World} {K:Act→World→Prop} {Q:Exit→Act→World→Prop} (ho:o.op = .buildSlice 35 0 #[]) (h:K (a.put o.dst (.slice (some ⟨V.heap.size,0,none⟩) 0 0)) (V.alloc (.cells #[] 3))):Oper.wp Tryz.prog o a V K Q:=by
 unfold Oper.wp execOp;simp only [ho];go_simp;exact h
theorem WA {o:Oper} {a:Act} {V:World} {K:Act→World→Prop} {Q:Exit→Act→World→Prop} (ho:o.op = .alloc 40) (h:K (a.put o.dst (.pointer (some ⟨V.heap.size,0,none⟩))) (V.alloc (.cells #[.slice none 0 0,.slice none 0 0] 40))):Oper.wp Tryz.prog o a V K Q:=by
 unfold Oper.wp execOp;simp only [ho];go_simp;exact h
theorem Uo {o:Oper} {a:Act} {V:World} {K:Act→World→Prop} {Q:Exit→Act→World→Prop} {x y:Option Addr} {n m c d:Nat} (ho:o.op = .build 40 #[(0,.tmp 76),(1,.tmp 82)]) (hx:a.eval (.tmp 76) = .slice x n c) (hy:a.eval (.tmp 82) = .slice y m d) (h:K (a.put o.dst (.agg #[.slice x n c,.slice y m d])) V):Oper.wp Tryz.prog o a V K Q:=by
 have hx':a.tmps[76]?.getD undef = .slice x n c:=by simpa [Act.eval] using hx
 have hy':a.tmps[82]?.getD undef = .slice y m d:=by simpa [Act.eval] using hy
 unfold Oper.wp execOp;simp only [ho];go_simp;exact h
theorem Uq {o:Oper} {a:Act} {V:World} {K:Act→World→Prop} {Q:Exit→Act→World→Prop} {x y:Option Addr} {n m c d:Nat} {y0 z0:Value} {k:Nat} (ho:o.op = .store 40 (.tmp 8) (.tmp 83)) (hx:a.eval (.tmp 8) = .pointer (some ⟨k,0,none⟩)) (hy:a.eval (.tmp 83) = .agg #[.slice x n c,.slice y m d]) (hk:V.heap[k]? = some (.cells #[y0,z0] 40 (0,0))) (h:K (a.put o.dst undef) ((V.setCell ⟨k,0,none⟩ (.slice x n c)).setCell ⟨k,1,none⟩ (.slice y m d))):Oper.wp Tryz.prog o a V K Q:=by
 have h1:V.cell? ⟨k,0,none⟩ = some y0:=by simp [World.cell?,hk]
 have h2:V.cell? ⟨k,1,none⟩ = some z0:=by simp [World.cell?,hk]
 have h3:V.frozen? ⟨k,0,none⟩ = false:=by simp [World.frozen?,hk]
 have h4:V.frozen? ⟨k,1,none⟩ = false:=by simp [World.frozen?,hk]
 have hx':a.tmps[8]?.getD undef = .pointer (some ⟨k,0,none⟩):=by simpa [Act.eval] using hx
 have hy':a.tmps[83]?.getD undef = .agg #[.slice x n c,.slice y m d]:=by simpa [Act.eval] using hy
 unfold Oper.wp execOp;simp only [ho];go_simp;exact h
theorem Ur {V:World} {k i:Nat} {cs:Array Value} {e:TypeId} {p:Nat × Nat} (hk:V.heap[k]? = some (.cells cs e p)) (x:Value):(V.setCell ⟨k,i,none⟩ x).heap[k]? = some (.cells (cs.setIfInBounds i x) e p):=by
 unfold World.setCell;simp only [Array.getElem?_modify,if_true,hk,Option.map_some];rfl
theorem WB {V:World} {k:Nat} {y z:Value} {e:TypeId} (hk:V.heap[k]? = some (.cells #[y,z] e (0,0))) (x x':Value):((V.setCell ⟨k,0,none⟩ x).setCell ⟨k,1,none⟩ x').heap[k]? = some (.cells #[x,x'] e (0,0)):=Ur (Ur hk x) x'
theorem sO {c:Prop} [Decidable c] {i j:Nat} (h:i∈(if c then [j] else [])):c∧i = j:=by
 by_cases hc:c
 ·rw [if_pos hc] at h
  exact ⟨hc,List.mem_singleton.1 h⟩
 ·rw [if_neg hc] at h
  cases h
theorem zG {P:Program} {ops:Array Oper} {Q:Exit→Act→World→Prop} {i:Nat} {K:Act→World→Prop} {a:Act} {w:World} {o:Oper} (ho:ops[i]? = some o) (hg:o.guard = none) (h:Oper.wp P o a w K Q):wpOp P ops Q i K a w :=
 wpOp_step ho fun K' hK=>by
  rw [if_pos (by simp [Region.wanted,hg])];exact Oper.wp_mono hK h
theorem QM {ops:Array Oper} {R:Exit→Act→World→Prop} {S:World→Prop} {y0 y5 y6 y11 y12 y13 y14:TypeId} {p0 p5 p6 p11 p12 p13 p14:String} {f0 f5 f6 f11 f12 f13 f14:Array Edge}
 (o0:ops[0]? = some ⟨some 71,.buildSlice 35 0 #[],y0,p0,f0,none⟩)
 (o5:ops[5]? = some ⟨some 76,.call { callee:=.builtin .append,args:=#[.tmp 71,.tmp 75],argTypes:=#[35,35] },y5,p5,f5,none⟩)
 (o6:ops[6]? = some ⟨some 77,.buildSlice 35 0 #[],y6,p6,f6,none⟩)
 (o11:ops[11]? = some ⟨some 82,.call { callee:=.builtin .append,args:=#[.tmp 77,.tmp 81],argTypes:=#[35,35] },y11,p11,f11,none⟩)
 (o12:ops[12]? = some ⟨some 83,.build 40 #[(0,.tmp 76),(1,.tmp 82)],y12,p12,f12,none⟩)
 (o13:ops[13]? = some ⟨some 8,.alloc 40,y13,p13,f13,none⟩)
 (o14:ops[14]? = some ⟨none,.store 40 (.tmp 8) (.tmp 83),y14,p14,f14,none⟩)
 (ok:Cx ops = true) (b:Nat) (w:World) (hbw:b≤w.heap.size) (A:Act) (hA:83 < A.tmps.size) (P Q:List Int) (aP aQ:Addr) (cP cQ:Nat) (eP:A.eval (.tmp 75) = .slice (some aP) P.length cP) (eQ:A.eval (.tmp 81) = .slice (some aQ) Q.length cQ)
 (iP:∀ V,Below b w V→Ints b V (some aP) P) (iQ:∀ V,Below b w V→Ints b V (some aQ) Q) (pP:0 < P.length) (pQ:0 < Q.length) (lP:P.length≤1000) (lQ:Q.length≤1000) (hS:∀ V,Below b w V→S V)
 (hR:∀ V g c h d k Fh Fj x83,New b V (.slice (some ⟨g,0,none⟩) P.length c) P→New b V (.slice (some ⟨h,0,none⟩) Q.length d) Q→V.heap[k]? = some (.cells #[.slice (some ⟨g,0,none⟩) P.length c,.slice (some ⟨h,0,none⟩) Q.length d] 40 (0,0))→b≤k→Below b w V →
   R .normal (F6 A Fh (.slice (some ⟨g,0,none⟩) P.length c) Fj (.slice (some ⟨h,0,none⟩) Q.length d) x83 (.pointer (some ⟨k,0,none⟩))) V) :
 ∀ n l a V,(∃ p q r s t g h k Fh Jr Fj x82 x83 x8,Two b w A P Q n l a V p q r s t g h k Fh Jr Fj x82 x83 x8)→wpAnyH Tryz.prog .any ops R S n l a V:=by
 refine sN _ ?_ ?_ ?_
 ·rintro n l a V ⟨p,q,r,s,t,g,h,k,Fh,Jr,Fj,x82,x83,x8,T⟩ hr
  have hle:=T.le;rw [T.l,Cx.out ok hle.1 hle.2.1 hle.2.2.1 hle.2.2.2.1 hle.2.2.2.2 T.hq T.hs T.ht] at hr;unfold nxt at hr;simp only [List.append_eq_nil_iff] at hr;obtain ⟨⟨⟨⟨⟨⟨h0,h1⟩,h2⟩,h3⟩,h4⟩,h5⟩,h6⟩:=hr;have hp:p = 2:=by
   by_cases c0:p = 0
   ·rw [if_pos c0] at h0;cases h0
   ·by_cases c1:p = 1
    ·rw [if_pos c1] at h1;cases h1
    ·omega
  have hq:q = 2:=by
   by_cases c0:q = 0
   ·rw [if_pos c0] at h2;cases h2
   ·by_cases c1:q = 1
    ·rw [if_pos ⟨c1,hp⟩] at h3;cases h3
    ·omega
  have hr:r = 1:=by
   by_cases c0:r = 0
   ·rw [if_pos c0] at h5;cases h5
   ·omega
  have hs:s = 1:=by
   by_cases c0:s = 0
   ·rw [if_pos ⟨c0,hp,hq⟩] at h4;cases h4
   ·omega
  have ht:t = 1:=by
   by_cases c0:t = 0
   ·rw [if_pos ⟨c0,hs,hr⟩] at h6;cases h6
   ·omega
  obtain ⟨e8,hbk,y,z,hk,hyz⟩:=T.r hr;obtain ⟨rfl,rfl⟩:=hyz ht;rcases T.P with c | ⟨c,_⟩ | ⟨_,c,e76,n76⟩
  ·omega
  ·omega
  rcases T.Q with c | ⟨c,_⟩ | ⟨_,d,e82,n82⟩
  ·omega
  ·omega
  rw [T.a];subst e76 e82 e8;exact hR V g c h d k Fh Fj x83 n76 n82 hk hbk T.B
 ·rintro l a V ⟨p,q,r,s,t,g,h,k,Fh,Jr,Fj,x82,x83,x8,T⟩
  have hle:=T.le;have hn:=T.n;rw [T.l,Cx.out ok hle.1 hle.2.1 hle.2.2.1 hle.2.2.2.1 hle.2.2.2.2 T.hq T.hs T.ht];obtain rfl:p = 2:=by omega
  obtain rfl:q = 2:=by omega
  obtain rfl:r = 1:=by omega
  obtain rfl:s = 1:=by omega
  obtain rfl:t = 1:=by omega
  rfl
 ·rintro n l a V ⟨p,q,r,s,t,g,h,k,Fh,Jr,Fj,x82,x83,x8,T⟩ i hi
  have hle:=T.le;have hn:=T.n;have Lh:b≤V.heap.size:=Nat.le_trans hbw T.B.size;have hev:=F6.ac3 A Fh Jr Fj x82 x83 x8 hA;rw [T.l,Cx.out ok hle.1 hle.2.1 hle.2.2.1 hle.2.2.2.1 hle.2.2.2.2 T.hq T.hs T.ht] at hi;have rk:∀ W:World,(∀ y z,V.heap[k]? = some (.cells #[y,z] 40 (0,0))→W.heap[k]? = V.heap[k]?)→(r = 1→x8 = .pointer (some ⟨k,0,none⟩)∧b≤k∧∃ y z,W.heap[k]? = some (.cells #[y,z] 40 (0,0))∧(t = 1→y = Jr∧z = x82)):=fun W hW hr=>by
   obtain ⟨e8,hb,y,z,hk,hyz⟩:=T.r hr;exact ⟨e8,hb,y,z,(hW y z hk).trans hk,hyz⟩
  have rl:∀ y z,V.heap[k]? = some (.cells #[y,z] 40 (0,0))→k < V.heap.size:=fun y z hk=>(Array.getElem?_eq_some_iff.1 hk).1
  have rne:∀ (j:Nat) (y z:Value) (cs:Array Value) (m:Nat × Nat),V.heap[k]? = some (.cells #[y,z] 40 (0,0))→V.heap[j]? = some (.cells cs 3 m)→k≠j:=fun j y z cs m h1 h2 e=>by
   subst e;rw [h1] at h2;simp only [Option.some.injEq,Obj.cells.injEq] at h2;exact absurd h2.2.1 (by decide)
  unfold nxt at hi;simp only [List.mem_append] at hi;rcases hi with (((((hi | hi) | hi) | hi) | hi) | hi) | hi
  ·obtain ⟨rfl,rfl⟩:=sO hi
   have B':=T.B.alloc Lh (.cells #[] 3);refine zG o0 rfl ?_;refine Pp (by rfl) ?_;refine ⟨hS _ B',1,q,r,s,t,V.heap.size,h,k,.slice (some ⟨V.heap.size,0,none⟩) 0 0,Jr,Fj,x82,x83,x8,?_⟩;exact {
    l:=by rw [T.l];rfl
    a:=by rw [T.a];exact F6.p71 _ _ _ _ _ _ _ _
    n:=by omega
    le:=by omega
    hq:=fun h=>by have:=T.hq h;omega
    hs:=fun h=>by have:=T.hs h;omega
    ht:=T.ht
    B:=B'
    P:=.inr (.inl ⟨rfl,rfl,jq.new _ T.B Lh⟩)
    Q:=T.Q.keep B' fun hq=>Below.heap_alloc _ _ _ (T.Q.lt hq).1
    ne:=fun _ hq _=>by have:=(T.Q.lt hq).1;omega
    s:=T.s
    r:=rk _ fun y z hk=>Below.heap_alloc _ _ _ (rl y z hk) }
  ·obtain ⟨rfl,rfl⟩:=sO hi
   rcases T.P with c | ⟨_,e71,r71⟩ | ⟨c,_⟩
   ·omega
   ·refine wpOp_step o5 fun K' hK=>ER V rfl (.tmp 71) (.tmp 75) rfl b g w (by rw [T.a,hev.1];exact e71) r71 aP P cP (by rw [T.a,hev.2.2.2.2.2.2.1];exact eP) pP iP hbw lP fun g' c' W nW dW tW zW kW=>hK _ _ ⟨hS W zW,2,q,r,s,t,g',h,k,Fh,.slice (some ⟨g',0,none⟩) P.length c',Fj,x82,x83,x8,?_⟩
    exact {
     l:=by rw [T.l];rfl
     a:=by rw [T.a];exact F6.p76 _ _ _ _ _ _ _ _
     n:=by omega
     le:=by omega
     hq:=fun _=>rfl
     hs:=fun h=>by have:=T.hs h;omega
     ht:=T.ht
     B:=zW
     P:=.inr (.inr ⟨rfl,c',rfl,nW⟩)
     Q:=T.Q.keep zW fun hq=>kW h (T.Q.lt hq).1 (Ne.symm (T.ne (by omega) hq (.inl rfl)))
     ne:=fun _ hq hor=>by
      rcases T.Q with c | ⟨_,_,r77⟩ | ⟨c,_⟩
      ·exact absurd c hq
      ·exact (dW h (Ne.symm (T.ne (by omega) hq (.inl rfl))) r77).2
      ·omega
     s:=fun h=>by have:=T.hs h;omega
     r:=fun hr=>by
      obtain ⟨e8,hb,y,z,hk,hyz⟩:=T.r hr;refine ⟨e8,hb,y,z,(kW k (rl y z hk) (rne g y z _ _ hk r71.1.1)).trans hk,fun ht=>?_⟩;have:=T.hs (T.ht ht).1
      omega }
   ·omega
  ·obtain ⟨rfl,rfl⟩:=sO hi
   have B':=T.B.alloc Lh (.cells #[] 3);refine zG o6 rfl ?_;refine Pp (by rfl) ?_;refine ⟨hS _ B',p,1,r,s,t,g,V.heap.size,k,Fh,Jr,.slice (some ⟨V.heap.size,0,none⟩) 0 0,x82,x83,x8,?_⟩;exact {
    l:=by rw [T.l];rfl
    a:=by rw [T.a];exact F6.p77 _ _ _ _ _ _ _ _
    n:=by omega
    le:=by omega
    hq:=fun h=>by omega
    hs:=fun h=>by have:=T.hs h;omega
    ht:=T.ht
    B:=B'
    P:=T.P.keep B' fun hq=>Below.heap_alloc _ _ _ (T.P.lt hq).1
    Q:=.inr (.inl ⟨rfl,rfl,jq.new _ T.B Lh⟩)
    ne:=fun hp _ _=>by have:=(T.P.lt hp).1;omega
    s:=T.s
    r:=rk _ fun y z hk=>Below.heap_alloc _ _ _ (rl y z hk) }
  ·obtain ⟨⟨rfl,rfl⟩,rfl⟩:=sO hi
   rcases T.Q with c | ⟨_,e77,r77⟩ | ⟨c,_⟩
   ·omega
   ·refine wpOp_step o11 fun K' hK=>ER V rfl (.tmp 77) (.tmp 81) rfl b h w (by rw [T.a,hev.2.2.1];exact e77) r77 aQ Q cQ (by rw [T.a,hev.2.2.2.2.2.2.2];exact eQ) pQ iQ hbw lQ fun g' c' W nW dW tW zW kW=>hK _ _ ⟨hS W zW,2,2,r,s,t,g,g',k,Fh,Jr,Fj,.slice (some ⟨g',0,none⟩) Q.length c',x83,x8,?_⟩
    exact {
     l:=by rw [T.l];rfl
     a:=by rw [T.a];exact F6.p82 _ _ _ _ _ _ _ _
     n:=by omega
     le:=by omega
     hq:=fun _=>rfl
     hs:=fun h=>by have:=T.hs h;omega
     ht:=T.ht
     B:=zW
     P:=T.P.keep zW fun hp=>kW g (T.P.lt hp).1 (T.ne hp (by omega) (.inr rfl))
     Q:=.inr (.inr ⟨rfl,c',rfl,nW⟩)
     ne:=fun _ _ hor=>by omega
     s:=fun h=>by have:=T.hs h;omega
     r:=fun hr=>by
      obtain ⟨e8,hb,y,z,hk,hyz⟩:=T.r hr;refine ⟨e8,hb,y,z,(kW k (rl y z hk) (rne h y z _ _ hk r77.1.1)).trans hk,fun ht=>?_⟩;have:=T.hs (T.ht ht).1
      omega }
   ·omega
  ·obtain ⟨⟨rfl,rfl,rfl⟩,rfl⟩:=sO hi
   rcases T.P with c | ⟨c,_⟩ | ⟨_,c,e76,n76⟩
   ·omega
   ·omega
   rcases T.Q with c' | ⟨c',_⟩ | ⟨_,d,e82,n82⟩
   ·omega
   ·omega
   refine zG o12 rfl ?_;refine Uo (by rfl) (by rw [T.a,hev.2.1];exact e76) (by rw [T.a,hev.2.2.2.1];exact e82) ?_;refine ⟨hS V T.B,2,2,r,1,t,g,h,k,Fh,Jr,Fj,x82,.agg #[.slice (some ⟨g,0,none⟩) P.length c,.slice (some ⟨h,0,none⟩) Q.length d],x8,?_⟩;exact {
    l:=by rw [T.l];rfl
    a:=by rw [T.a];exact F6.p83 _ _ _ _ _ _ _ _
    n:=by omega
    le:=by omega
    hq:=T.hq
    hs:=fun _=>⟨rfl,rfl⟩
    ht:=fun h=>by have:=T.ht h;omega
    B:=T.B
    P:=T.P
    Q:=T.Q
    ne:=T.ne
    s:=fun _=>by rw [e76,e82]
    r:=T.r }
  ·obtain ⟨rfl,rfl⟩:=sO hi
   have B':=T.B.alloc Lh (.cells #[.slice none 0 0,.slice none 0 0] 40);refine zG o13 rfl ?_;refine WA (by rfl) ?_;refine ⟨hS _ B',p,q,1,s,t,g,h,V.heap.size,Fh,Jr,Fj,x82,x83,.pointer (some ⟨V.heap.size,0,none⟩),?_⟩;exact {
    l:=by rw [T.l];rfl
    a:=by rw [T.a];exact F6.p8 _ _ _ _ _ _ _ _
    n:=by omega
    le:=by omega
    hq:=T.hq
    hs:=T.hs
    ht:=fun h=>by have:=T.ht h;omega
    B:=B'
    P:=T.P.keep B' fun hq=>Below.heap_alloc _ _ _ (T.P.lt hq).1
    Q:=T.Q.keep B' fun hq=>Below.heap_alloc _ _ _ (T.Q.lt hq).1
    ne:=T.ne
    s:=T.s
    r:=fun _=>⟨rfl,Lh,_,_,World.alloc_heap_new V _,fun h=>by have:=T.ht h;omega⟩ }
  ·obtain ⟨⟨rfl,rfl,rfl⟩,rfl⟩:=sO hi
   obtain ⟨rfl,rfl⟩:=T.hs rfl;rcases T.P with c | ⟨c,_⟩ | ⟨_,c,e76,n76⟩
   ·omega
   ·omega
   rcases T.Q with c' | ⟨c',_⟩ | ⟨_,d,e82,n82⟩
   ·omega
   ·omega
   obtain ⟨e8,hbk,y,z,hk,_⟩:=T.r rfl;have e83:=T.s rfl;subst e76 e82;have hne:∀ (j:Nat) (cs:Array Value) (m:Nat × Nat),V.heap[j]? = some (.cells cs 3 m)→((V.setCell ⟨k,0,none⟩ (.slice (some ⟨g,0,none⟩) P.length c)).setCell ⟨k,1,none⟩ (.slice (some ⟨h,0,none⟩) Q.length d)).heap[j]? = V.heap[j]?:=fun j cs m hj=>by
    have:=rne j y z cs m hk hj
    rw [Below.heap_setCell _ _ _ _ (Ne.symm this),Below.heap_setCell _ _ _ _ (Ne.symm this)]
   have B':Below b w ((V.setCell ⟨k,0,none⟩ (.slice (some ⟨g,0,none⟩) P.length c)).setCell ⟨k,1,none⟩ (.slice (some ⟨h,0,none⟩) Q.length d)):=(T.B.setCell (p:=⟨k,0,none⟩) hbk _).setCell (p:=⟨k,1,none⟩) hbk _;refine zG o14 rfl ?_;refine Uq (by rfl) (by rw [T.a,hev.2.2.2.2.2.1];exact e8) (by rw [T.a,hev.2.2.2.2.1];exact e83) hk ?_;refine ⟨hS _ B',2,2,1,1,1,g,h,k,Fh,.slice (some ⟨g,0,none⟩) P.length c,Fj,.slice (some ⟨h,0,none⟩) Q.length d,x83,x8,?_⟩;exact {
    l:=by rw [T.l];rfl
    a:=T.a
    n:=by omega
    le:=by omega
    hq:=T.hq
    hs:=fun _=>⟨rfl,rfl⟩
    ht:=fun _=>⟨rfl,rfl⟩
    B:=B'
    P:=T.P.keep B' fun hq=>by
     obtain ⟨_,cs,m,hj⟩:=T.P.lt hq;exact hne _ cs m hj
    Q:=T.Q.keep B' fun hq=>by
     obtain ⟨_,cs,m,hj⟩:=T.Q.lt hq;exact hne _ cs m hj
    ne:=T.ne
    s:=T.s
    r:=fun _=>⟨e8,hbk,_,_,WB hk _ _,fun _=>⟨rfl,rfl⟩⟩ }
theorem MM {ops:Array Oper} {R:Exit→Act→World→Prop} {S:World→Prop} {y0 y5 y6 y11 y12 y13 y14:TypeId} {p0 p5 p6 p11 p12 p13 p14:String} {f0 f5 f6 f11 f12 f13 f14:Array Edge}
 (o0:ops[0]? = some ⟨some 71,.buildSlice 35 0 #[],y0,p0,f0,none⟩)
 (o5:ops[5]? = some ⟨some 76,.call { callee:=.builtin .append,args:=#[.tmp 71,.tmp 75],argTypes:=#[35,35] },y5,p5,f5,none⟩)
 (o6:ops[6]? = some ⟨some 77,.buildSlice 35 0 #[],y6,p6,f6,none⟩)
 (o11:ops[11]? = some ⟨some 82,.call { callee:=.builtin .append,args:=#[.tmp 77,.tmp 81],argTypes:=#[35,35] },y11,p11,f11,none⟩)
 (o12:ops[12]? = some ⟨some 83,.build 40 #[(0,.tmp 76),(1,.tmp 82)],y12,p12,f12,none⟩)
 (o13:ops[13]? = some ⟨some 8,.alloc 40,y13,p13,f13,none⟩)
 (o14:ops[14]? = some ⟨none,.store 40 (.tmp 8) (.tmp 83),y14,p14,f14,none⟩)
 (ok:Cx ops = true) (b:Nat) (w:World) (hbw:b≤w.heap.size) (A:Act) (hA:83 < A.tmps.size) (P Q:List Int) (aP aQ:Addr) (cP cQ:Nat) (eP:A.eval (.tmp 75) = .slice (some aP) P.length cP) (eQ:A.eval (.tmp 81) = .slice (some aQ) Q.length cQ)
 (iP:∀ V,Below b w V→Ints b V (some aP) P) (iQ:∀ V,Below b w V→Ints b V (some aQ) Q) (pP:0 < P.length) (pQ:0 < Q.length) (lP:P.length≤1000) (lQ:Q.length≤1000) (hS:∀ V,Below b w V→S V)
 (hR:∀ V g c h d k Fh Fj x83,New b V (.slice (some ⟨g,0,none⟩) P.length c) P→New b V (.slice (some ⟨h,0,none⟩) Q.length d) Q→V.heap[k]? = some (.cells #[.slice (some ⟨g,0,none⟩) P.length c,.slice (some ⟨h,0,none⟩) Q.length d] 40 (0,0))→b≤k→Below b w V →
   R .normal (F6 A Fh (.slice (some ⟨g,0,none⟩) P.length c) Fj (.slice (some ⟨h,0,none⟩) Q.length d) x83 (.pointer (some ⟨k,0,none⟩))) V)
 {l:Array Bool} (hl:l = lst 0 0 0 0 0) (h0:A = F6 A undef undef undef undef undef undef) (V:World) (hV:Below b w V):wpAnyH Tryz.prog .any ops R S 7 l A V :=
 QM o0 o5 o6 o11 o12 o13 o14 ok b w hbw A hA P Q aP aQ cP cQ eP eQ iP iQ pP pQ lP lQ hS hR 7 l A V ⟨0,0,0,0,0,0,0,0,undef,undef,undef,undef,undef,undef,hl,h0,rfl,by decide,fun h=>absurd h (by decide),fun h=>absurd h (by decide),fun h=>absurd h (by decide),hV,.inl rfl,.inl rfl,fun h=>absurd rfl h,fun h=>absurd h (by decide),fun h=>absurd h (by decide)⟩
end
end Go.Proofs.YtglohanbpjaieaaGreat
namespace Go.Proofs.YtglohanbpjaieaaGreat
open Go.Proofs Go.RowKit Go.Shelf Go.Maps Go.Deep
def spine:Nat→Code→Code
 | 0,c=>c
 | n+1,.seq _ b=>spine n b
 | _+1,c=>c
end Go.Proofs.YtglohanbpjaieaaGreat
