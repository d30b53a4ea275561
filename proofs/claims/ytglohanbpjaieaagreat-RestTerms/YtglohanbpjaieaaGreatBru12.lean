/-
  Parts of the proof: Web4, Web5, Web6a, Web6, Web7, Web8, Web9.
-/
import Derived.Test.YtglohanbpjaieaaGreatBru11
set_option maxHeartbeats 2000000
set_option maxRecDepth 100000
namespace Go.Proofs.YtglohanbpjaieaaGreat
open Go.Proofs Go.RowKit Go.Shelf
namespace Wb
theorem OC (zs:List Int) (h:Nat→Nat) (o n p:Nat):hd zs (mg h o n) p = if hd zs h p = o then n else hd zs h p:=rfl
theorem qX (zs:List Int) (h:Nat→Nat) (o n:Nat):∀ p q,p < zs.length→q < zs.length→hd zs h p = hd zs h q→hd zs (mg h o n) p = hd zs (mg h o n) q:=fun p q _ _ e=>by rw [OC,OC,e]
def Ends (zs:List Int) (h:Nat→Nat) (a b o n:Nat):Prop:=(hd zs h a = n∧hd zs h b = o)∨(hd zs h a = o∧hd zs h b = n)
theorem Ends.tied {zs:List Int} {h:Nat→Nat} {a b o n:Nat} (E:Ends zs h a b o n) (hne:o≠n):hd zs (mg h o n) a = hd zs (mg h o n) b:=by
 rw [OC,OC];rcases E with ⟨e1,e2⟩ | ⟨e1,e2⟩
 ·rw [e1,e2,if_pos rfl,if_neg (fun e=>hne e.symm)]
 ·rw [e1,e2,if_pos rfl,if_neg (fun e=>hne e.symm)]
theorem Ends.app {zs:List Int} (G:Good zs) {h:Nat→Nat} {a b o n:Nat} (E:Ends zs h a b o n) (ha:a < zs.length) (hb:b < zs.length) {θ:Sb} (R:iY zs h θ) (e:App θ (cont zs a) = App θ (cont zs b)):App θ (cont zs o) = App θ (cont zs n):=by
 have h1:=R.hd G ha;have h2:=R.hd G hb;rcases E with ⟨e1,e2⟩ | ⟨e1,e2⟩
 ·rw [e1] at h1;rw [e2] at h2;rw [← h2,← h1,e]
 ·rw [e1] at h1;rw [e2] at h2;rw [← h1,← h2,e]
theorem iY.mg {zs:List Int} {h:Nat→Nat} {o n:Nat} {θ:Sb} (R:iY zs h θ) (e:App θ (cont zs o) = App θ (cont zs n)):iY zs (mg h o n) θ:=fun p hp cp=>by
 have:=R p hp cp
 unfold Wb.mg;by_cases ep:h p = o
 ·rw [if_pos ep,this,ep,e]
 ·rw [if_neg ep,this]
theorem kN.var {zs:List Int} (G:Good zs) {T:Nat→Option Nat} {h:Nat→Nat} (S:St zs T h) {a b o n:Nat} (ha:a < zs.length) (hb:b < zs.length) (E:Ends zs h a b o n) (hne:o≠n) (ov:sg zs o < 0):kN zs h (Wb.mg h o n) [(a,b)]:=by
 refine ⟨qX zs h o n,fun θ _ R hq=>R.mg (E.app G ha hb R (hq a b (by simp))),fun p q hm=>by simp at hm;obtain ⟨rfl,rfl⟩:=hm;exact E.tied hne,fun P hC p q hp hq sp sq e=>?_⟩;have hno:∀ x,x < zs.length→0≤sg zs x→h x≠o:=fun x hx sx ex=>by
  have:=S.up x hx (oM sx)
  rw [ex] at this;omega
 have e':h p = h q:=by
  unfold Wb.mg at e;rw [if_neg (hno p hp sp),if_neg (hno q hq sq)] at e;exact e
 obtain ⟨e1,e2⟩:=hC p q hp hq sp sq e';refine ⟨e1,fun i hi=>(e2 i hi).move (qX zs h o n) fun x y hm=>?_⟩;simp at hm;rcases hm with ⟨rfl,rfl⟩ | hm
 ·exact .base _ _ ha hb (E.tied hne)
 ·exact .pair _ _ hm
def fU (zs:List Int) (n o:Nat) (m:Nat):List (Nat × Nat):=(List.range m).map fun i=>(Tm.pos zs n i,Tm.pos zs o i)
theorem Ha (zs:List Int) (n o m:Nat):fU zs n o (m+1) = fU zs n o m++[(Tm.pos zs n m,Tm.pos zs o m)]:=by simp [fU,List.range_succ]
theorem ng {zs:List Int} {n o m p q:Nat} (h:(p,q)∈fU zs n o m):∃ i,i < m∧p = Tm.pos zs n i∧q = Tm.pos zs o i:=by
 unfold fU at h;rw [List.mem_map] at h;obtain ⟨i,hi,e⟩:=h;cases e;exact ⟨i,List.mem_range.1 hi,rfl,rfl⟩
theorem qy {zs:List Int} {n o m i:Nat} (h:i < m):(Tm.pos zs n i,Tm.pos zs o i)∈fU zs n o m:=by
 unfold fU;rw [List.mem_map];exact ⟨i,List.mem_range.2 h,rfl⟩
theorem kN.sym {zs:List Int} (G:Good zs) {h h2:Nat→Nat} {a b o n:Nat} (ha:a < zs.length) (hb:b < zs.length) (E:Ends zs h a b o n) (hne:o≠n) (ho:o < zs.length) (hn:n < zs.length) (ro:h o = o) (rn:h n = n) (so:0≤sg zs o)
 (es:sg zs o = sg zs n) (K:kN zs (Wb.mg h o n) h2 (fU zs n o (Tm.room (sg zs n)))):kN zs h h2 [(a,b)]:=by
 refine ⟨fun p q hp hq e=>K.coarse p q hp hq (qX zs h o n p q hp hq e),fun θ hθ R hq=>?_,fun p q hm=>by simp at hm;obtain ⟨rfl,rfl⟩:=hm;exact K.coarse _ _ ha hb (E.tied hne),fun P hC=>K.close P fun p q hp hq sp sq e=>?_⟩
 ·have e:=E.app G ha hb R (hq a b (by simp))
  refine K.sound θ hθ (R.mg e) fun p q hm=>?_
  obtain ⟨i,hi,rfl,rfl⟩:=ng hm;exact (G9 G hθ hn ho (by omega) so e.symm).2 i hi
 ·have mv:∀ x y,Jm zs h ([(a,b)]++P) x y→Jm zs (Wb.mg h o n) (fU zs n o (Tm.room (sg zs n))++P) x y:=fun x y hxy=>hxy.move (qX zs h o n) fun u v hm=>by
   simp at hm;rcases hm with ⟨rfl,rfl⟩ | hm
   ·exact .base _ _ ha hb (E.tied hne)
   ·exact .pair _ _ (List.mem_append_right _ hm)
  have on:∀ i,i < Tm.room (sg zs n)→Jm zs (Wb.mg h o n) (fU zs n o (Tm.room (sg zs n))++P) (Tm.pos zs o i) (Tm.pos zs n i):=fun i hi=>.symm _ _ (.pair _ _ (List.mem_append_left _ (qy hi)))
  have cross:∀ x y,x < zs.length→y < zs.length→0≤sg zs x→0≤sg zs y→h x = o→h y = n→sg zs x = sg zs y∧∀ i,i < Tm.room (sg zs x)→Jm zs (Wb.mg h o n) (fU zs n o (Tm.room (sg zs n))++P) (Tm.pos zs x i) (Tm.pos zs y i):=fun x y hx hy sx sy ex ey=>by
   obtain ⟨e1,e2⟩:=hC x o hx ho sx so (by rw [ex,ro]);obtain ⟨e3,e4⟩:=hC y n hy hn sy (by omega) (by rw [ey,rn]);refine ⟨by omega,fun i hi=>?_⟩;exact .trans _ _ _ (mv _ _ (e2 i hi)) (.trans _ _ _ (on i (by rw [← es,← e1];exact hi)) (.symm _ _ (mv _ _ (e4 i (by rw [e3,← es,← e1];exact hi)))))
  have same:h p = h q→sg zs p = sg zs q∧∀ i,i < Tm.room (sg zs p)→Jm zs (Wb.mg h o n) (fU zs n o (Tm.room (sg zs n))++P) (Tm.pos zs p i) (Tm.pos zs q i):=fun e'=>by
   obtain ⟨e1,e2⟩:=hC p q hp hq sp sq e';exact ⟨e1,fun i hi=>mv _ _ (e2 i hi)⟩
  unfold Wb.mg at e;by_cases ep:h p = o
  ·by_cases eq:h q = o
   ·exact same (by rw [ep,eq])
   ·rw [if_pos ep,if_neg eq] at e
    exact cross p q hp hq sp sq ep e.symm
  ·by_cases eq:h q = o
   ·rw [if_neg ep,if_pos eq] at e
    obtain ⟨e1,e2⟩:=cross q p hq hp sq sp eq e;exact ⟨e1.symm,fun i hi=>.symm _ _ (e2 i (by rw [e1];exact hi))⟩
   ·rw [if_neg ep,if_neg eq] at e
    exact same e
def No (zs:List Int) (h:Nat→Nat) (ps:List (Nat × Nat)):Prop:=∀ θ,TermSb θ→iY zs h θ→(∀ p q,(p,q)∈ps→App θ (cont zs p) = App θ (cont zs q))→False
theorem No.clash {zs:List Int} (G:Good zs) {h:Nat→Nat} {a b o n:Nat} (ha:a < zs.length) (hb:b < zs.length) (E:Ends zs h a b o n) (ho:o < zs.length) (hn:n < zs.length) (so:0≤sg zs o) (sn:0≤sg zs n) (es:sg zs o≠sg zs n):No zs h [(a,b)]:=fun θ hθ R hq =>
 es (G9 G hθ ho hn so sn (E.app G ha hb R (hq a b (by simp)))).1
theorem No.sym {zs:List Int} (G:Good zs) {h:Nat→Nat} {a b o n:Nat} (ha:a < zs.length) (hb:b < zs.length) (E:Ends zs h a b o n) (ho:o < zs.length) (hn:n < zs.length) (so:0≤sg zs o) (sn:0≤sg zs n)
 (K:No zs (Wb.mg h o n) (fU zs n o (Tm.room (sg zs n)))):No zs h [(a,b)]:=fun θ hθ R hq=>by
 have e:=E.app G ha hb R (hq a b (by simp));refine K θ hθ (R.mg e) fun p q hm=>?_
 obtain ⟨i,hi,rfl,rfl⟩:=ng hm;exact (G9 G hθ hn ho sn so e.symm).2 i hi
theorem No.later {zs:List Int} {h h1:Nat→Nat} {ps qs rs:List (Nat × Nat)} (A:kN zs h h1 ps) (B:No zs h1 qs) (hs:∀ x,x∈ps→x∈rs) (ht:∀ x,x∈qs→x∈rs):No zs h rs:=fun θ hθ R hq =>
 B θ hθ (A.sound θ hθ R fun p q hm=>hq p q (hs _ hm)) fun p q hm=>hq p q (ht _ hm)
end Wb
end Go.Proofs.YtglohanbpjaieaaGreat
namespace Go.Proofs.YtglohanbpjaieaaGreat
open Go.Proofs Go.RowKit Go.Shelf Go.Maps
theorem dE.RX {W:World} {Bw Bm:Nat} {b off:Nat} {cap:Nat} {zs:List Int} {N:Nat} {T:Nat→Option Nat} (h:dE W Bw Bm (some ⟨b,off,none⟩) cap zs N T) {p:Nat} (hp:p < zs.length):W.cell? ⟨b,off+p,none⟩ = some (.int .i64 (Wb.sg zs p)):=by
 obtain ⟨b',off',e,_,hc⟩:=h.ints p hp;cases e;exact hc
theorem dE.set {W W1:World} {Bw Bm:Nat} {a:Option Addr} {cap:Nat} {zs:List Int} {N o n:Nat} {T:Nat→Option Nat} {M:Int→Option Value} (h:dE W Bw Bm a cap zs N T) (hM:dh W Bm N M) (hMT:∀ p:Nat,M (p:Int) = (T p).map fun q=>.int .i64 (q:Int))
 (h1:dh W1 Bm (N+1) (upd M (o:Int) (.int .i64 (n:Int)))) (hg:W.grownBy W1 (some Bm)):dE W1 Bw Bm a cap zs (N+1) (Wb.qc T o n):=by
 obtain ⟨es,clock,hmap⟩:=hM.map;have hk:∀ k,k < W.heap.size→k≠Bm→W1.heap[k]? = W.heap[k]?:=fun k hk hne=>hg.block k hk (by simpa using hne)
 have hne:Bw≠Bm:=lC h.cell0 hmap;refine ⟨(hk Bw h.lt.1 hne).trans h.JF,fun j hj=>?_,⟨_,h1,fun p=>?_⟩⟩
 ·obtain ⟨b,off,e,hb,hc⟩:=h.ints j hj
  exact ⟨b,off,e,by have:=hg.size;omega,(World.cell?_of_block (a:=⟨b,off+j,none⟩) (hk b hb (lC hc hmap))).trans hc⟩
 ·by_cases e:p = o
  ·subst e;rw [upd_same];simp [Wb.qc]
  ·rw [gP _ _ (by omega),hMT];simp [Wb.qc,e]
theorem dh.drewN {W:World} {b n:Nat} {m:Int→Option Value} (h:dh W b n m) (d:Nat):dh (W.drewN d) b n m:=h.keep rfl
theorem j5 {w w1:World} {row:Option Nat} {d:Nat} (h:(w.drewN d).grownBy w1 row):w.grownBy w1 row:=⟨h.os,h.tape,h.output,h.size,h.block⟩
def Fg (W:World) (Bw Bm:Nat) (a:Option Addr) (cap:Nat) (zs:List Int) (h:Nat→Nat):Prop:=∃ T N,Wb.St zs T h∧dE W Bw Bm a cap zs N T∧N+Wb.rt zs h≤zs.length
def BD (W':World) (e:Ending) (Bw Bm:Nat) (a:Option Addr) (cap:Nat) (zs:List Int) (h:Nat→Nat) (ps:List (Nat × Nat)):Prop :=
 (e = .returned (.bool true)∧∃ h',Wb.kN zs h h' ps∧Fg W' Bw Bm a cap zs h'∧Wb.rt zs h'≤Wb.rt zs h)∨(e = .returned (.bool false)∧Wb.No zs h ps)
theorem DT {n m d:Nat} {a b:World} (h:aW n m (a.drewN d) b):aW n m a b:=⟨h.os,h.tape,h.output,h.size,h.block⟩
theorem Vq {f:Nat} {args:Array Value} {W:World} {m Bw Bm:Nat} {a:Option Addr} {cap:Nat} {zs:List Int} {h:Nat→Nat} {ps:List (Nat × Nat)} (H:Calls Tryz.prog f args W fun e W'=>aW m Bm W W'∧BD W' e Bw Bm a cap zs h ps) :
 Calls Tryz.prog f args W fun e W'=>∃ q,e = .returned (.bool q)∧aW m Bm W W'∧((q = true∧∃ h',Wb.kN zs h h' ps∧Fg W' Bw Bm a cap zs h'∧Wb.rt zs h'≤Wb.rt zs h)∨(q = false∧Wb.No zs h ps)) :=
 H.mono fun _ _ ⟨hK,hA⟩=>hA.elim (fun ⟨he,r⟩=>⟨true,he,hK,.inl ⟨rfl,r⟩⟩) (fun ⟨he,r⟩=>⟨false,he,hK,.inr ⟨rfl,r⟩⟩)
theorem JI (zs:List Int) (G:Wb.Good zs) (h:Nat→Nat) (Bw Bm:Nat) (a:Option Addr) (cap one other:Nat) (w:World) (hw:Fg w Bw Bm a cap zs h) (h1:one < zs.length) (h2:other < zs.length)
 (hP:∀ (h':Nat→Nat) (n o:Nat) (W:World),Wb.rt zs h' < Wb.rt zs h→n < zs.length→o < zs.length→0≤Wb.sg zs n→Wb.sg zs o = Wb.sg zs n→Fg W Bw Bm a cap zs h' →
   Calls Tryz.prog 138 #[.pointer (some ⟨Bw,0,none⟩),.int .i64 (n:Int),.int .i64 (o:Int)] W fun e W'=>aW W.heap.size Bm W W'∧BD W' e Bw Bm a cap zs h' (Wb.fU zs n o (Tm.room (Wb.sg zs n)))) :
 Calls Tryz.prog 133 #[.pointer (some ⟨Bw,0,none⟩),.int .i64 (one:Int),.int .i64 (other:Int)] w fun e w'=>aW w.heap.size Bm w w'∧BD w' e Bw Bm a cap zs h [(one,other)]:=by
 obtain ⟨T,N,S,hW,hN⟩:=hw;have hH1:=callsIn_wide.1 (yQ Fence.wide iZ 0 zs T h G S Bw Bm a cap N one h1 w hW);have hH2:=callsIn_wide.1 (yQ Fence.wide iZ 0 zs T h G S Bw Bm a cap N other h2 w hW);have hl5:=G.len;have Vp:(zs.length:Int)≤5000:=by omega
 by_cases he:Wb.hd zs h one = Wb.hd zs h other
 ·have hT:=hid (Wb.kN.same h1 h2 he)
  have hSt:Hid (Fg w Bw Bm a cap zs h):=⟨T,N,S,hW,hN⟩;rw [he] at hH1;clear he hW S hP;generalize Wb.hd zs h other = y at *;go_enter Tryz.func133,Tryz.ntmps133;go_wp2_with (first
   | (go_at_call_of 137 (Value.int .i64 (one:Int));refine hH1.mono ?_;clear hH1;rintro e w ⟨rfl,rfl⟩)
   | (go_at_call_of 137 (Value.int .i64 (other:Int));refine hH2.mono ?_;clear hH2;rintro e w ⟨rfl,rfl⟩))
  go_ret;exact ⟨aW.refl _ _ _,.inl ⟨rfl,h,hT.out,hSt.out,Nat.le_refl _⟩⟩
 ·obtain ⟨l1,c1,r1⟩:=Wb.nQ G S h1
  obtain ⟨l2,c2,r2⟩:=Wb.nQ G S h2;obtain ⟨b,off,rfl,hb,hc⟩:=hW.ints.at (by omega);have hcx:w.cell? ⟨b,off+Wb.hd zs h one,none⟩ = some (.int .i64 (Wb.sg zs (Wb.hd zs h one))):=hc _ l1;have hcy:w.cell? ⟨b,off+Wb.hd zs h other,none⟩ = some (.int .i64 (Wb.sg zs (Wb.hd zs h other))):=hc _ l2;have hw0:=hW.cell0;have hw1:=hW.cell1;clear hc;by_cases hlt:Wb.sg zs (Wb.hd zs h one) < Wb.sg zs (Wb.hd zs h other)
  ·have yS:Wb.Ends zs h one other (Wb.hd zs h one) (Wb.hd zs h other):=.inr ⟨rfl,rfl⟩
   generalize hx:Wb.hd zs h one = x at *;generalize hy:Wb.hd zs h other = y at *;clear hx hy;have hne:x≠y:=he;have abz:((x:Int) == (y:Int)) = false:=by simp;omega
   have hxl:(x:Int) < (zs.length:Int):=by omega
   have hyl:(y:Int) < (zs.length:Int):=by omega
   obtain ⟨ho,hn,co,cn,ro,rn,hsg⟩:x < zs.length∧y < zs.length∧Wb.can zs x = x∧Wb.can zs y = y∧h x = x∧h y = y∧Wb.sg zs x≤Wb.sg zs y:=⟨l1,l2,c1,c2,r1,r2,by omega⟩;go_enter Tryz.func133,Tryz.ntmps133;obtain ⟨M,hM,hMT⟩:=hW.ties;have Lx:=wfN (n:=x) (by omega);have hset:=hid (fun w1 (h1:dh w1 Bm (N+1) (upd M (x:Int) (.int .i64 (y:Int)))) h2=>hW.set hM hMT (o:=x) (n:=y) h1 h2);have HM:=hid hM;have hSt:=hid (S.merge ho hn co cn ro rn hne hsg);have hrt:=Wb.JE ho co ro rn hne;by_cases hov:Wb.sg zs x < 0
   ·have LA:=hid (Wb.kN.var G S h1 h2 yS hne hov)
    clear hM hMT S hne ro rn;go_wp2_with (first
     | (go_at_call_of 137 (Value.int .i64 (one:Int));refine hH1.mono ?_;clear hH1;rintro e w ⟨rfl,rfl⟩)
     | (go_at_call_of 137 (Value.int .i64 (other:Int));refine hH2.mono ?_;clear hH2;rintro e w ⟨rfl,rfl⟩))
    go_quiet (fail)
    go_wp2_with (first
     | (at_mapUpdate;go_loud (refine jE _ rfl _ _ _ 154 rfl 3 Tryz.underlying154 Bm N M rfl (HM.out.drewN _) (by unfold maxLen;omega) (x:Int) rfl Lx _ rfl ?_);intro w1 hM1 hg0;have hg1:=j5 hg0;have hW1:=hset.out w1 hM1 hg1;have DU:=hW1.cell0;have BG:=dE.RX hW1 ho))
    go_ret;exact ⟨aW.jg hg1 (Nat.le_refl _),.inl ⟨rfl,_,LA.out,⟨_,_,hSt.out,hW1,by omega⟩,by omega⟩⟩
   ·have Ho:0≤Wb.sg zs x:=by omega
    have aeL:decide (Wb.sg zs x < 0) = false:=by simpa using hov
    by_cases hes:Wb.sg zs x = Wb.sg zs y
    ·have LA:=hid (fun h2' K=>Wb.kN.sym (h2:=h2') G h1 h2 yS hne ho hn ro rn Ho hes K)
     have yT:=hid (fun K=>Wb.No.sym G h1 h2 yS ho hn Ho (by omega) K);have RY:∀ w1,dE w1 Bw Bm (some ⟨b,off,none⟩) cap zs (N+1) (Wb.qc T x y)→Fg w1 Bw Bm (some ⟨b,off,none⟩) cap zs (Wb.mg h x y):=fun w1 hw1=>⟨_,_,hSt.out,hw1,by omega⟩
     have hcall:=hid (fun w1 (hw1:dE w1 Bw Bm (some ⟨b,off,none⟩) cap zs (N+1) (Wb.qc T x y))=>Vq (hP (Wb.mg h x y) y  x (w1.drewN 1) hrt hn ho (by omega) hes (RY _ ⟨hw1.JF,hw1.ints,hw1.ties⟩)));have aeM:(Wb.sg zs y == Wb.sg zs x) = true:=by simp [hes]
     have aeN:0≤Wb.sg zs y:=by omega
     clear hM hMT S hne ro rn hP RY hes;go_wp2_with (first
      | (go_at_call_of 137 (Value.int .i64 (one:Int));refine hH1.mono ?_;clear hH1;rintro e w ⟨rfl,rfl⟩)
      | (go_at_call_of 137 (Value.int .i64 (other:Int));refine hH2.mono ?_;clear hH2;rintro e w ⟨rfl,rfl⟩))
     go_quiet (fail)
     go_wp2_with (first
      | (at_mapUpdate;go_loud (refine jE _ rfl _ _ _ 154 rfl 3 Tryz.underlying154 Bm N M rfl (HM.out.drewN _) (by unfold maxLen;omega) (x:Int) rfl Lx _ rfl ?_);intro w1 hM1 hg0;have hg1:=j5 hg0;have hW1:=hset.out w1 hM1 hg1;have DU:=hW1.cell0;have BG:=dE.RX hW1 ho;have LB:=dE.RX hW1 hn))
     have hC:=hcall.out w1 hW1;clear hcall;obtain ⟨es,clock,hmap⟩:=HM.out.map;have yU:∃ es clock,w1.heap[Bm]? = some (.map es clock):=hM1.map;obtain ⟨es1,clock1,yU⟩:=yU;have hlw:=hW1.lt.1;have hlb:b < w1.heap.size:=lt_of_cell BG;have hnb:b≠Bm:=lC BG yU;have hnw:Bw≠Bm:=lC DU yU;go_region_held3 (fun w'=>w'.cell? ⟨Bw,0,none⟩ = some (.slice (some ⟨b,off,none⟩) zs.length cap)∧w'.cell? ⟨b,off+y,none⟩ = some (.int .i64 (Wb.sg zs y))∧w'.cell? ⟨b,off+x,none⟩ = some (.int .i64 (Wb.sg zs x))) (first | assumption | exact ⟨DU,LB,BG⟩) (first
      | (go_at_call 138;refine hC.mono ?_;clear hC;rintro e w2 ⟨q,rfl,hK2,hq2⟩;have hS2:w2.cell? ⟨Bw,0,none⟩ = some (.slice (some ⟨b,off,none⟩) zs.length cap)∧w2.cell? ⟨b,off+y,none⟩ = some (.int .i64 (Wb.sg zs y))∧w2.cell? ⟨b,off+x,none⟩ = some (.int .i64 (Wb.sg zs x)):=⟨(hK2.cell (p:=⟨Bw,0,none⟩) hlw hnw).trans DU,(hK2.cell (p:=⟨b,off+y,none⟩) hlb hnb).trans LB,(hK2.cell (p:=⟨b,off+x,none⟩) hlb hnb).trans BG⟩))
     all_goals (
      go_wp2;go_ret;refine ⟨(aW.jg hg1 (Nat.le_refl _)).trans (aW.mono (DT hK2) hg1.size),?_⟩;rcases hq2 with ⟨rfl,h',hL,hS',hr'⟩ | ⟨rfl,hN'⟩
      ·exact .inl ⟨rfl,h',LA.out h' hL,hS',by omega⟩
      ·exact .inr ⟨rfl,yT.out hN'⟩)
    ·have yT:=hid (Wb.No.clash G h1 h2 yS ho hn Ho (by omega) hes)
     have hneq:(Wb.sg zs y == Wb.sg zs x) = false:=by simp;exact fun e=>hes e.symm
     clear hM hMT S hne ro rn hP hes;go_wp2_with (first
      | (go_at_call_of 137 (Value.int .i64 (one:Int));refine hH1.mono ?_;clear hH1;rintro e w ⟨rfl,rfl⟩)
      | (go_at_call_of 137 (Value.int .i64 (other:Int));refine hH2.mono ?_;clear hH2;rintro e w ⟨rfl,rfl⟩))
     go_quiet (fail)
     go_wp2_with (first
      | (at_mapUpdate;go_loud (refine jE _ rfl _ _ _ 154 rfl 3 Tryz.underlying154 Bm N M rfl (HM.out.drewN _) (by unfold maxLen;omega) (x:Int) rfl Lx _ rfl ?_);intro w1 hM1 hg0;have hg1:=j5 hg0;have hW1:=hset.out w1 hM1 hg1;have DU:=hW1.cell0;have BG:=dE.RX hW1 ho;have LB:=dE.RX hW1 hn))
     go_quiet (fail)
     go_wp2;go_ret;exact ⟨dA (aW.jg hg1 (Nat.le_refl _)) _,.inr ⟨rfl,yT.out⟩⟩
  ·have yS:Wb.Ends zs h one other (Wb.hd zs h other) (Wb.hd zs h one):=.inl ⟨rfl,rfl⟩
   generalize hx:Wb.hd zs h one = x at *;generalize hy:Wb.hd zs h other = y at *;clear hx hy;have hne:y≠x:=fun e=>he e.symm
   have aj7:decide (Wb.sg zs x < Wb.sg zs y) = false:=by simpa using hlt
   have abz:((x:Int) == (y:Int)) = false:=by simp;omega
   have hxl:(x:Int) < (zs.length:Int):=by omega
   have hyl:(y:Int) < (zs.length:Int):=by omega
   obtain ⟨ho,hn,co,cn,ro,rn,hsg⟩:y < zs.length∧x < zs.length∧Wb.can zs y = y∧Wb.can zs x = x∧h y = y∧h x = x∧Wb.sg zs y≤Wb.sg zs x:=⟨l2,l1,c2,c1,r2,r1,by omega⟩;go_enter Tryz.func133,Tryz.ntmps133;obtain ⟨M,hM,hMT⟩:=hW.ties;have Lx:=wfN (n:=y) (by omega);have hset:=hid (fun w1 (h1:dh w1 Bm (N+1) (upd M (y:Int) (.int .i64 (x:Int)))) h2=>hW.set hM hMT (o:=y) (n:=x) h1 h2);have HM:=hid hM;have hSt:=hid (S.merge ho hn co cn ro rn hne hsg);have hrt:=Wb.JE ho co ro rn hne;by_cases hov:Wb.sg zs y < 0
   ·have LA:=hid (Wb.kN.var G S h1 h2 yS hne hov)
    clear hM hMT S hne ro rn;go_wp2_with (first
     | (go_at_call_of 137 (Value.int .i64 (one:Int));refine hH1.mono ?_;clear hH1;rintro e w ⟨rfl,rfl⟩)
     | (go_at_call_of 137 (Value.int .i64 (other:Int));refine hH2.mono ?_;clear hH2;rintro e w ⟨rfl,rfl⟩))
    go_quiet (fail)
    go_wp2_with (first
     | (at_mapUpdate;go_loud (refine jE _ rfl _ _ _ 154 rfl 3 Tryz.underlying154 Bm N M rfl (HM.out.drewN _) (by unfold maxLen;omega) (y:Int) rfl Lx _ rfl ?_);intro w1 hM1 hg0;have hg1:=j5 hg0;have hW1:=hset.out w1 hM1 hg1;have DU:=hW1.cell0;have BG:=dE.RX hW1 ho))
    go_ret;exact ⟨aW.jg hg1 (Nat.le_refl _),.inl ⟨rfl,_,LA.out,⟨_,_,hSt.out,hW1,by omega⟩,by omega⟩⟩
   ·have Ho:0≤Wb.sg zs y:=by omega
    have aeL:decide (Wb.sg zs y < 0) = false:=by simpa using hov
    by_cases hes:Wb.sg zs y = Wb.sg zs x
    ·have LA:=hid (fun h2' K=>Wb.kN.sym (h2:=h2') G h1 h2 yS hne ho hn ro rn Ho hes K)
     have yT:=hid (fun K=>Wb.No.sym G h1 h2 yS ho hn Ho (by omega) K);have RY:∀ w1,dE w1 Bw Bm (some ⟨b,off,none⟩) cap zs (N+1) (Wb.qc T y x)→Fg w1 Bw Bm (some ⟨b,off,none⟩) cap zs (Wb.mg h y x):=fun w1 hw1=>⟨_,_,hSt.out,hw1,by omega⟩
     have hcall:=hid (fun w1 (hw1:dE w1 Bw Bm (some ⟨b,off,none⟩) cap zs (N+1) (Wb.qc T y x))=>Vq (hP (Wb.mg h y x) x  y (w1.drewN 1) hrt hn ho (by omega) hes (RY _ ⟨hw1.JF,hw1.ints,hw1.ties⟩)));have aeM:(Wb.sg zs x == Wb.sg zs y) = true:=by simp [hes]
     have aeN:0≤Wb.sg zs x:=by omega
     clear hM hMT S hne ro rn hP RY hes;go_wp2_with (first
      | (go_at_call_of 137 (Value.int .i64 (one:Int));refine hH1.mono ?_;clear hH1;rintro e w ⟨rfl,rfl⟩)
      | (go_at_call_of 137 (Value.int .i64 (other:Int));refine hH2.mono ?_;clear hH2;rintro e w ⟨rfl,rfl⟩))
     go_quiet (fail)
     go_wp2_with (first
      | (at_mapUpdate;go_loud (refine jE _ rfl _ _ _ 154 rfl 3 Tryz.underlying154 Bm N M rfl (HM.out.drewN _) (by unfold maxLen;omega) (y:Int) rfl Lx _ rfl ?_);intro w1 hM1 hg0;have hg1:=j5 hg0;have hW1:=hset.out w1 hM1 hg1;have DU:=hW1.cell0;have BG:=dE.RX hW1 ho;have LB:=dE.RX hW1 hn))
     have hC:=hcall.out w1 hW1;clear hcall;obtain ⟨es,clock,hmap⟩:=HM.out.map;have yU:∃ es clock,w1.heap[Bm]? = some (.map es clock):=hM1.map;obtain ⟨es1,clock1,yU⟩:=yU;have hlw:=hW1.lt.1;have hlb:b < w1.heap.size:=lt_of_cell BG;have hnb:b≠Bm:=lC BG yU;have hnw:Bw≠Bm:=lC DU yU;go_region_held3 (fun w'=>w'.cell? ⟨Bw,0,none⟩ = some (.slice (some ⟨b,off,none⟩) zs.length cap)∧w'.cell? ⟨b,off+x,none⟩ = some (.int .i64 (Wb.sg zs x))∧w'.cell? ⟨b,off+y,none⟩ = some (.int .i64 (Wb.sg zs y))) (first | assumption | exact ⟨DU,LB,BG⟩) (first
      | (go_at_call 138;refine hC.mono ?_;clear hC;rintro e w2 ⟨q,rfl,hK2,hq2⟩;have hS2:w2.cell? ⟨Bw,0,none⟩ = some (.slice (some ⟨b,off,none⟩) zs.length cap)∧w2.cell? ⟨b,off+x,none⟩ = some (.int .i64 (Wb.sg zs x))∧w2.cell? ⟨b,off+y,none⟩ = some (.int .i64 (Wb.sg zs y)):=⟨(hK2.cell (p:=⟨Bw,0,none⟩) hlw hnw).trans DU,(hK2.cell (p:=⟨b,off+x,none⟩) hlb hnb).trans LB,(hK2.cell (p:=⟨b,off+y,none⟩) hlb hnb).trans BG⟩))
     all_goals (
      go_wp2;go_ret;refine ⟨(aW.jg hg1 (Nat.le_refl _)).trans (aW.mono (DT hK2) hg1.size),?_⟩;rcases hq2 with ⟨rfl,h',hL,hS',hr'⟩ | ⟨rfl,hN'⟩
      ·exact .inl ⟨rfl,h',LA.out h' hL,hS',by omega⟩
      ·exact .inr ⟨rfl,yT.out hN'⟩)
    ·have yT:=hid (Wb.No.clash G h1 h2 yS ho hn Ho (by omega) hes)
     have hneq:(Wb.sg zs x == Wb.sg zs y) = false:=by simp;exact fun e=>hes e.symm
     clear hM hMT S hne ro rn hP hes;go_wp2_with (first
      | (go_at_call_of 137 (Value.int .i64 (one:Int));refine hH1.mono ?_;clear hH1;rintro e w ⟨rfl,rfl⟩)
      | (go_at_call_of 137 (Value.int .i64 (other:Int));refine hH2.mono ?_;clear hH2;rintro e w ⟨rfl,rfl⟩))
     go_quiet (fail)
     go_wp2_with (first
      | (at_mapUpdate;go_loud (refine jE _ rfl _ _ _ 154 rfl 3 Tryz.underlying154 Bm N M rfl (HM.out.drewN _) (by unfold maxLen;omega) (y:Int) rfl Lx _ rfl ?_);intro w1 hM1 hg0;have hg1:=j5 hg0;have hW1:=hset.out w1 hM1 hg1;have DU:=hW1.cell0;have BG:=dE.RX hW1 ho;have LB:=dE.RX hW1 hn))
     go_quiet (fail)
     go_wp2;go_ret;exact ⟨dA (aW.jg hg1 (Nat.le_refl _)) _,.inr ⟨rfl,yT.out⟩⟩
theorem ja {fn:Func} {tmps:Array Value} {w:World} {a B:Nat} {v:Bool} (h:fn.results = #[.cell a 4]) (ht:tmps.getD a undef = .pointer (some ⟨B,0,none⟩)) (hc:w.cell? ⟨B,0,none⟩ = some (.bool v)):(results fn tmps).run Tryz.prog w = .ok (.bool v) w:=by
 have ht':tmps[a]?.getD undef = .pointer (some ⟨B,0,none⟩):=by rw [← ht];simp
 simp only [results,h];simp [go_sem,ht',hc]
section
attribute [local go_sem] Oper.semAt_some
theorem Fg.keep {W W':World} {Bw Bm b off n:Nat} {cap:Nat} {zs:List Int} {h:Nat→Nat} (H:Fg W Bw Bm (some ⟨b,off,none⟩) cap zs h) (h1:Bw < n) (h2:Bm < n) (h3:b < n) (hn:n≤W'.heap.size) (hk:∀ k,k < n→W'.heap[k]? = W.heap[k]?):Fg W' Bw Bm (some ⟨b,off,none⟩) cap zs h:=by
 obtain ⟨T,N,S,hW,hN⟩:=H;refine ⟨T,N,S,⟨(hk Bw h1).trans hW.JF,fun j hj=>?_,?_⟩,hN⟩
 ·obtain ⟨b',off',e,_,hc⟩:=hW.ints j hj
  cases e;exact ⟨b,off,rfl,by omega,(World.cell?_of_block (a:=⟨b,off+j,none⟩) (hk b h3)).trans hc⟩
 ·obtain ⟨M,hM,hMT⟩:=hW.ties
  exact ⟨M,hM.keep (hk Bm h2),hMT⟩
theorem Fg.ints {W:World} {Bw Bm:Nat} {a:Option Addr} {cap:Nat} {zs:List Int} {h:Nat→Nat} (H:Fg W Bw Bm a cap zs h):Ints W.heap.size W a zs:=by
 obtain ⟨T,N,S,hW,hN⟩:=H;exact hW.ints
theorem Fg.cell0 {W:World} {Bw Bm:Nat} {a:Option Addr} {cap:Nat} {zs:List Int} {h:Nat→Nat} (H:Fg W Bw Bm a cap zs h):W.cell? ⟨Bw,0,none⟩ = some (.slice a zs.length cap):=by
 obtain ⟨T,N,S,hW,hN⟩:=H;exact hW.cell0
theorem Fg.lt {W:World} {Bw Bm:Nat} {a:Option Addr} {cap:Nat} {zs:List Int} {h:Nat→Nat} (H:Fg W Bw Bm a cap zs h):Bw < W.heap.size∧Bm < W.heap.size:=by
 obtain ⟨T,N,S,hW,hN⟩:=H;exact hW.lt
theorem yV {n m B:Nat} {w X Y:World} {row:Option Nat} (hB:n≤B) (h:aW n m w X) (hg:X.grownBy Y row) (hr:∀ r,row = some r→B≤r∧∃ o:Obj,X.heap[r]? = some o∧o.isCells = false) (hn:n≤w.heap.size:=by exact Nat.le_refl _):aW n m w Y :=
 ⟨hg.os.trans h.os,hg.tape.trans h.tape,hg.output.trans h.output,Nat.le_trans h.size hg.size,fun k hk hm=>(hg.block k (by have:=h.size;omega) (fun e=>by have:=(hr k e.symm).1;omega)).trans (h.block k hk hm)⟩
theorem DV {n m B:Nat} {w X:World} (h:aW n m w X) (hB:n≤B) (v:Value):aW n m w (X.setCell ⟨B,0,none⟩ v) :=
 ⟨h.os,h.tape,h.output,Nat.le_trans h.size (KeepsWalks.setCell X _ v).size,fun k hk hm=>(Below.heap_setCell X ⟨B,0,none⟩ v k (by show k≠B;omega)).trans (h.block k hk hm)⟩
structure OD (w:World) (Bw Bm b off cap:Nat) (zs:List Int) (h:Nat→Nat) (one other i:Nat) (W:World):Prop where
 st:∃ h',Wb.kN zs h h' (Wb.fU zs one other i)∧Fg W Bw Bm (some ⟨b,off,none⟩) cap zs h'∧Wb.rt zs h'≤Wb.rt zs h
 bA:Boxed W (w.heap.size+1+1) 3 (.int .i64 (Tm.pos zs other i:Int))
 bW:Boxed W w.heap.size 163 (.pointer (some ⟨Bw,0,none⟩))
 bR:Boxed W (w.heap.size+1) 4 (.bool false)
 bK:Boxed W (w.heap.size+1+1+1+1) 3 (.int .i64 (one:Int))
 bT:Boxed W (w.heap.size+1+1+1) 35 (.slice (some ⟨b,off,none⟩) zs.length cap)
 kp:aW w.heap.size Bm w W
theorem OD.own {w:World} {Bw Bm b off cap:Nat} {zs:List Int} {h:Nat→Nat} {one other B:Nat} (h1:Bw < w.heap.size) (h2:Bm < w.heap.size) (h3:b < w.heap.size) (hB:w.heap.size≤B):OwnFrom B (OD w Bw Bm b off cap zs h one other):=by
 rintro i X Y row ⟨⟨h',hL,hS,hr⟩,bA,bW,bR,bK,bT,hK⟩ hg hrow;have hbx:∀ {C:Nat} {t:TypeId} {v:Value},Boxed X C t v→Boxed Y C t v:=fun {C t v} hb=>(boxed_own C t (fun _:Unit=>v)).from B () X Y row hb hg hrow
 refine ⟨⟨h',hL,hS.keep h1 h2 h3 (Nat.le_trans hK.size hg.size) fun k hk=>hg.block k (by have:=hK.size;omega) (fun e=>by have:=(hrow k e.symm).1;omega),hr⟩,hbx bA,hbx bW,hbx bR,hbx bK,hbx bT,yV hB hK hg hrow⟩
theorem Fv (zs:List Int) (G:Wb.Good zs) (h:Nat→Nat) (Bw Bm b off:Nat) (cap one other:Nat) (w:World) (hw:Fg w Bw Bm (some ⟨b,off,none⟩) cap zs h) (h1:one < zs.length) (h2:other < zs.length) (hs2:Wb.sg zs other = Wb.sg zs one)
 (hT:∀ (h':Nat→Nat) (p q:Nat) (W:World),Wb.rt zs h'≤Wb.rt zs h→p < zs.length→q < zs.length→Fg W Bw Bm (some ⟨b,off,none⟩) cap zs h' →
   Calls Tryz.prog 133 #[.pointer (some ⟨Bw,0,none⟩),.int .i64 (p:Int),.int .i64 (q:Int)] W fun e W'=>aW W.heap.size Bm W W'∧BD W' e Bw Bm (some ⟨b,off,none⟩) cap zs h' [(p,q)]) :
 Calls Tryz.prog 138 #[.pointer (some ⟨Bw,0,none⟩),.int .i64 (one:Int),.int .i64 (other:Int)] w fun e w'=>aW w.heap.size Bm w w'∧BD w' e Bw Bm (some ⟨b,off,none⟩) cap zs h (Wb.fU zs one other (Tm.room (Wb.sg zs one))):=by
 obtain ⟨F,hF⟩:∃ F,F = Fence.wide:=⟨_,rfl⟩;refine (callsIn_wide (n:=3)).1 ?_;rw [← hF];obtain ⟨hro,hfn,hdd,jv⟩:=fC hF;have qz:Hid (Pl F):=by rw [hF];exact iZ
 clear hF;have hf1:=hfn 138;have hf2:=hfn 133;have hf3:=hfn 101;have PU:=hfn 123;have RZ:=hfn 69;clear hfn;have hl5:=G.len;have Vp:(zs.length:Int)≤5000:=by omega
 have h2':(other:Int) < (zs.length:Int):=by omega
 have h1':(one:Int) < (zs.length:Int):=by omega
 have hw0:=hw.cell0;have hlt:=hw.lt;obtain ⟨b',off',e,hb,hcb⟩:=hw.ints.at (by omega);cases e;have hB0:Below w.heap.size w (((w.alloc (.cells #[.pointer (some ⟨Bw,0,none⟩)] 163)).alloc (.cells #[.bool false] 4)).alloc (.cells #[.int .i64 ((other:Int)+1)] 3)) :=
  (((Below.refl _ w).alloc (Nat.le_refl _) _).alloc (by simp) _).alloc (by simp;omega) _
 have aeO:=(hB0.cell (p:=⟨Bw,0,none⟩) hlt.1).trans hw0;have bW:=((Boxed.new w 163 (.pointer (some ⟨Bw,0,none⟩))).alloc (.cells #[.bool false] 4)).alloc (.cells #[.int .i64 ((other:Int)+1)] 3);have bR:=(Boxed.new (w.alloc (.cells #[.pointer (some ⟨Bw,0,none⟩)] 163)) 4 (.bool false)).alloc (.cells #[.int .i64 ((other:Int)+1)] 3);have bA:=Boxed.new ((w.alloc (.cells #[.pointer (some ⟨Bw,0,none⟩)] 163)).alloc (.cells #[.bool false] 4)) 3 (.int .i64 ((other:Int)+1));simp only [World.size_alloc] at bR bA;have hs3:(((w.alloc (.cells #[.pointer (some ⟨Bw,0,none⟩)] 163)).alloc (.cells #[.bool false] 4)).alloc (.cells #[.int .i64 ((other:Int)+1)] 3)).heap.size = w.heap.size+1+1+1:=by simp
 obtain ⟨W3,hW3⟩:∃ W3,((w.alloc (.cells #[.pointer (some ⟨Bw,0,none⟩)] 163)).alloc (.cells #[.bool false] 4)).alloc (.cells #[.int .i64 ((other:Int)+1)] 3) = W3:=⟨_,rfl⟩;have HW3:=hid hW3;have Hs3:Hid (W3.heap.size = w.heap.size+1+1+1):=by show _ = _;rw [← hW3];exact hs3
 rw [hW3] at hB0 bW bR bA;clear hW3 hs3;refine callsIn_of_wp_marks Tryz.func138 rfl hf1 ?_ hro;simp only [Tryz.ntmps138,List.size_toArray,List.length_cons,List.length_nil,Nat.reduceAdd,Nat.reduceSub,Array.replicate_succ,Array.replicate_zero,List.push_toArray,List.append_toArray,List.nil_append,List.cons_append];gi_wp2_with (first
  | ((try refine ⟨hdd _,?_⟩);gi_at_call 101;refine (j6 F qz.out _ _ _ _ _ _).mono ?_;rintro e w' ⟨rfl,rfl⟩))
 rw [HW3.out];have hs3:=Hs3.out;have bW5:=(bW.alloc (.cells #[.slice (some ⟨b,off,none⟩) zs.length cap] 35)).alloc (.cells #[.int .i64 (one:Int)] 3);have U7:=(bR.alloc (.cells #[.slice (some ⟨b,off,none⟩) zs.length cap] 35)).alloc (.cells #[.int .i64 (one:Int)] 3);have X8:=(bA.alloc (.cells #[.slice (some ⟨b,off,none⟩) zs.length cap] 35)).alloc (.cells #[.int .i64 (one:Int)] 3);have R3:=(Boxed.new W3 35 (.slice (some ⟨b,off,none⟩) zs.length cap)).alloc (.cells #[.int .i64 (one:Int)] 3);have R4:=Boxed.new (W3.alloc (.cells #[.slice (some ⟨b,off,none⟩) zs.length cap] 35)) 3 (.int .i64 (one:Int));rw [World.size_alloc,hs3] at R4;rw [hs3] at R3;have gq:Below w.heap.size w ((W3.alloc (.cells #[.slice (some ⟨b,off,none⟩) zs.length cap] 35)).alloc (.cells #[.int .i64 (one:Int)] 3)):=(hB0.alloc (by omega) _).alloc (by simp;omega) _;have hs5:((W3.alloc (.cells #[.slice (some ⟨b,off,none⟩) zs.length cap] 35)).alloc (.cells #[.int .i64 (one:Int)] 3)).heap.size = w.heap.size+1+1+1+1+1:=by simp [hs3]
 have hrm:=Tm.room_le (Wb.sg zs one);have hkp:∀ i,i < Tm.room (Wb.sg zs one)→Tm.pos zs one i < zs.length∧Tm.pos zs other i < zs.length:=fun i hi=>⟨Wb.jL G h1 hi,Wb.jL G h2 (by rw [hs2];exact hi)⟩
 have HG:=hid G;have HT:=hid hT;have Rm:=hid hkp;clear hT hkp G bW bR bA aeO hcb HW3;refine dU hro (by omega) (gf:=123) (lb:=#[.pointer (some ⟨w.heap.size+1+1+1+1,0,none⟩),.pointer (some ⟨w.heap.size+1+1+1,0,none⟩)]) rfl PU (enters_of Tryz.func123 (by kernel_rfl) rfl)
  (iM F qz.out _ (w.heap.size+1+1+1+1) (w.heap.size+1+1+1) one cap (some ⟨b,off,none⟩) zs hl5 h1 (jF F qz.out zs hl5 _ cap one)) (fun _=>rfl)
  (OD w Bw Bm b off cap zs h one other)
  (fun c W=>c = .ret∧Wb.No zs h (Wb.fU zs one other (Tm.room (Wb.sg zs one)))∧Boxed W (w.heap.size+1) 4 (.bool false)∧aW w.heap.size Bm w W) (fun _ _=>False) (.inl fun _ _ h=>h)
  (OD.own hlt.1 hlt.2 hb (by rw [hs5];omega))
  (by
    rintro c X Y row ⟨e,hN,hB,hK⟩ hg hr;exact ⟨e,hN,(boxed_own (w.heap.size+1) 4 (fun _:Unit=>.bool false)).from _ () X Y row hB hg hr,yV (by rw [hs5];omega) hK hg hr⟩)
  (fun i W hI=>⟨hI.bK.cell,hI.bT.cell,by obtain ⟨h',_,hS,_⟩:=hI.st;exact hS.ints⟩)
  ⟨⟨h,Wb.kN.nil _ _,hw.keep hlt.1 hlt.2 hb gq.size (fun k hk=>gq.block k hk),Nat.le_refl _⟩,by rw [Tm.dB];exact X8,bW5,U7,R4,R3,aW.of_below gq⟩
  (fun i=>{ tmps:=#[.pointer (some ⟨Bw,0,none⟩),.int .i64 (one:Int),.int .i64 (other:Int),.pointer (some ⟨w.heap.size,0,none⟩),undef,undef,.pointer (some ⟨w.heap.size+1,0,none⟩),.pointer (some ⟨w.heap.size+1+1,0,none⟩),.int .i64 (Tm.pos zs one i:Int),.int .i64 (other:Int),.int .i64 ((other:Int)+1),
    .pointer (some ⟨Bw,0,none⟩),.pointer (some ⟨Bw,0,none⟩),.pointer (some ⟨Bw,0,none⟩),.slice (some ⟨b,off,none⟩) zs.length cap,.int .i64 (one:Int),.func (.func 123) #[] #[.pointer (some ⟨w.heap.size+1+1+1+1,0,none⟩),.pointer (some ⟨w.heap.size+1+1+1,0,none⟩)],
    .int .i64 (Tm.pos zs one i:Int),.int .i64 (Tm.pos zs one (i+1):Int),undef,undef,undef,undef,undef,undef,undef,undef,undef,undef,undef],defers:=[] }) ?assign ?body ?done ?stop ?panic
 case assign =>
  intro l i W K hK;simp only [ni];gi_wp2
  exact hK
 case body =>
  rintro l i W hI hi;obtain ⟨⟨h',hL,hS,hr⟩,bA,bW,bR,bK,bT,hK⟩:=hI;have hi':i < Tm.room (Wb.sg zs one):=hi;obtain ⟨hp1,hp2⟩:=Rm.out i hi';have Xk:=hid (CallsIn.inRound l (jv (n:=0) (Vq (HT.out h' (Tm.pos zs one i) (Tm.pos zs other i) W hr hp1 hp2 hS))));have c1:=bW.cell;have c2:=bA.cell;have hlw:=bT.lt;have hlk:=bK.lt;have hK0:=hid hK;have hL0:=hid hL;have hne:∀ k,w.heap.size≤k→k≠Bm:=fun k hk e=>by have:=hlt.2;omega
  have mixed:Tryz.prog.follows .mixedOrders = true:=by kernel_rfl
  have hpo:Tm.pos zs other (i+1) = Tm.ai zs (Tm.pos zs other i):=Tm.ed zs other i;have Hpo:=hid hpo;have aka:(Tm.pos zs other i:Int) < (zs.length:Int):=by omega
  clear hpo;gi_wp2_with (first
   | ((try refine ⟨hdd _,?_⟩);gi_at_call 133;refine Xk.out.mono ?_;clear Xk;rintro e W1 ⟨q,rfl,hK1,hq⟩;have bA1:Boxed W1 (w.heap.size+1+1) 3 (.int .i64 (Tm.pos zs other i:Int)):=(hK1.block _ bA.lt (hne _ (by omega))).trans bA;have bW1:Boxed W1 w.heap.size 163 (.pointer (some ⟨Bw,0,none⟩)):=(hK1.block _ bW.lt (hne _ (by omega))).trans bW;have U8:Boxed W1 (w.heap.size+1) 4 (.bool false):=(hK1.block _ bR.lt (hne _ (by omega))).trans bR;have bK1:Boxed W1 (w.heap.size+1+1+1+1) 3 (.int .i64 (one:Int)):=(hK1.block _ bK.lt (hne _ (by omega))).trans bK;have bT1:Boxed W1 (w.heap.size+1+1+1) 35 (.slice (some ⟨b,off,none⟩) zs.length cap):=(hK1.block _ bT.lt (hne _ (by omega))).trans bT;have cR:=U8.cell;have fR:=U8.frozen;have Xl:aW w.heap.size Bm w W1:=hK0.out.trans (hK1.mono hK0.out.size);have R6:KeepsFrom (w.heap.size+1+1+1+1+1) W W1:=⟨hK1.size,fun k o hk ho _=>(hK1.block k (Array.getElem?_eq_some_iff.1 ho).1 (hne k (by omega))).trans ho⟩;rcases hq with ⟨rfl,h2',hL2,hS2,hr2⟩ | ⟨rfl,hN⟩))
  ·skip
   have c3:=bW1.cell;have c4:=bA1.cell;have f4:=bA1.frozen;have c5:=hS2.cell0;have hEn:=hid (yX F qz.out zs hl5 (some ⟨b,off,none⟩) cap _ (Tm.pos zs other i) 0 (Nat.le_refl _) (by omega) W1.drew hS2.ints);gi_region_with_o (first | ((try refine ⟨hdd _,?_⟩);gi_at_call 69;refine (CallsIn.inRound l hEn.out).mono ?_;rintro e W2 ⟨rfl,hB2⟩;have bA2:Boxed W2 (w.heap.size+1+1) 3 (.int .i64 (Tm.pos zs other i:Int)):=(hB2.block _ bA1.lt).trans bA1;have c6:=bA2.cell;have f6:=bA2.frozen))
   all_goals (
    gi_wp2
    rw [hs5];refine ⟨(R6.trans ⟨hB2.size,fun k o _ ho _=>(hB2.block k (Array.getElem?_eq_some_iff.1 ho).1).trans ho⟩).trans ((KeepsOthers.setCell _ _ _).from _),?_⟩;have hnp:∀ (p q:Nat),(p,q)∈Wb.fU zs one other i→p < zs.length∧q < zs.length:=fun p q hx=>by
     obtain ⟨j,hj,rfl,rfl⟩:=Wb.ng hx;exact Rm.out j (by omega)
    have hst:Fg (W2.setCell ⟨w.heap.size+1+1,0,none⟩ (.int .i64 (Tm.ai zs (Tm.pos zs other i):Int))) Bw Bm (some ⟨b,off,none⟩) cap zs h2' :=
     hS2.keep hlt.1 hlt.2 hb (Nat.le_trans (Nat.le_trans Xl.size hB2.size) (KeepsWalks.setCell W2 _ _).size) fun k hk=>(Below.heap_setCell W2 ⟨w.heap.size+1+1,0,none⟩ _ k (show k≠w.heap.size+1+1 by omega)).trans (hB2.block k (by have:=Xl.size;exact Nat.lt_of_lt_of_le hk this))
    have JJ:aW w.heap.size Bm w W2:=Xl.trans (DT (d:=1) (aW.of_below (hB2.mono Xl.size)));refine ⟨⟨h2',?_,hst,by omega⟩,?_,Boxed.other ((hB2.block _ bW1.lt).trans bW1) (by omega) _,Boxed.other ((hB2.block _ U8.lt).trans U8) (by omega) _,Boxed.other ((hB2.block _ bK1.lt).trans bK1) (by omega) _,Boxed.other ((hB2.block _ bT1.lt).trans bT1) (by omega) _,DV JJ (by omega) _⟩
    ·rw [Wb.Ha];exact hL0.out.snoc hL2 hnp
    ·rw [Hpo.out];exact bA2.set _)
  ·skip
   rw [hs5];exact ⟨R6.trans ((KeepsOthers.setCell _ _ _).from _),rfl,Wb.No.later hL0.out hN (fun x hx=>by
    obtain ⟨p,q⟩:=x;obtain ⟨j,hj,rfl,rfl⟩:=Wb.ng hx;exact Wb.qy (by omega)) (fun x hx=>by simp at hx;subst hx;exact Wb.qy hi'),U8.set _,DV Xl (by omega) _⟩
 case done =>
  rintro D W hD hI qA;obtain ⟨⟨h',hL,hS,hr⟩,bA,bW,bR,bK,bT,hK⟩:=hI;have c1:=bR.cell;have c2:=bR.frozen;rw [hs5] at hD;gi_wp2
  have BH:=bR.set (.bool true);have qB:(W.setCell ⟨w.heap.size+1,0,none⟩ (.bool true)).heap[D]? = some (.deferred (some [])):=(Below.heap_setCell W ⟨w.heap.size+1,0,none⟩ _ D (show D≠w.heap.size+1 by omega)).trans qA;refine ⟨by simp,.inl ⟨_,_,rfl,run_takeDeferred qB,?_⟩⟩;have hkp:∀ k,k < w.heap.size→((W.setCell ⟨w.heap.size+1,0,none⟩ (.bool true)).putObj D (.deferred none)).heap[k]? = W.heap[k]?:=fun k hk=>(World.putObj_heap_other (by omega)).trans (Below.heap_setCell W ⟨w.heap.size+1,0,none⟩ _ k (show k≠w.heap.size+1 by omega))
  refine ⟨_,ja rfl rfl ((World.cell?_of_block (a:=⟨w.heap.size+1,0,none⟩) (World.putObj_heap_other (show w.heap.size+1≠D by omega))).trans BH.cell),?_⟩;refine ⟨?_,.inl ⟨rfl,h',hL,hS.keep hlt.1 hlt.2 hb ?_ hkp,hr⟩⟩
  ·exact ⟨hK.os,hK.tape,hK.output,by have:=hK.size;have:=(KeepsWalks.setCell W ⟨w.heap.size+1,0,none⟩ (.bool true)).size;simp;omega,fun k hk hm=>(hkp k hk).trans (hK.block k hk hm)⟩
  ·have:=hK.size;have:=(KeepsWalks.setCell W ⟨w.heap.size+1,0,none⟩ (.bool true)).size;simp;omega
 case stop =>
  rintro D c W hD ⟨rfl,hN,bR,hK⟩ qA;have c1:=bR.cell;rw [hs5] at hD;gi_wp2
  refine ⟨by simp,.inl ⟨_,_,rfl,run_takeDeferred qA,?_⟩⟩;refine ⟨_,ja rfl rfl ((World.cell?_of_block (a:=⟨w.heap.size+1,0,none⟩) (World.putObj_heap_other (show w.heap.size+1≠D by omega))).trans c1),?_⟩;exact ⟨⟨hK.os,hK.tape,hK.output,by have:=hK.size;simp;omega,fun k hk hm=>(World.putObj_heap_other (by omega)).trans (hK.block k hk hm)⟩,.inr ⟨rfl,hN⟩⟩
 case panic=>exact fun _ _ _ _ h=>h.elim
theorem Vr (zs:List Int) (G:Wb.Good zs) (Bw Bm b off cap:Nat):∀ (m:Nat) (h:Nat→Nat),Wb.rt zs h≤m→∀ (one other:Nat) (w:World),one < zs.length→other < zs.length→Fg w Bw Bm (some ⟨b,off,none⟩) cap zs h →
 Calls Tryz.prog 133 #[.pointer (some ⟨Bw,0,none⟩),.int .i64 (one:Int),.int .i64 (other:Int)] w fun e w'=>aW w.heap.size Bm w w'∧BD w' e Bw Bm (some ⟨b,off,none⟩) cap zs h [(one,other)]:=by
 intro m;induction m with
 | zero =>
  intro h hm one other w h1 h2 hw;exact JI zs G h Bw Bm _ cap one other w hw h1 h2 (fun h' n o W hr=>by omega)
 | succ m ih =>
  intro h hm one other w h1 h2 hw;exact JI zs G h Bw Bm _ cap one other w hw h1 h2 (fun h' n o W hr hn ho _ hs hW=>Fv zs G h' Bw Bm b off cap n o W hW hn ho hs (fun h'' p q W' hr' hp hq hW'=>ih h'' (by omega) p q W' hp hq hW'))
end
end Go.Proofs.YtglohanbpjaieaaGreat
namespace Go.Proofs.YtglohanbpjaieaaGreat
open Go.Proofs Go.RowKit Go.Shelf
namespace Wb
inductive Fin (zs:List Int) (h:Nat→Nat):Nat→Prop
 | mk (p:Nat):(∀ i,i < Tm.room (sg zs (hd zs h p))→Fin zs h (Tm.pos zs (hd zs h p) i))→Fin zs h p
inductive qY (zs:List Int) (h:Nat→Nat):Nat→List Int→Prop
 | mk (p:Nat) (ls:List (List Int)):ls.length = Tm.room (sg zs (hd zs h p))→(∀ i,i < Tm.room (sg zs (hd zs h p))→qY zs h (Tm.pos zs (hd zs h p) i) (ls[i]?.getD []))→qY zs h p (sg zs (hd zs h p) :: ls.flatten)
theorem Fin.exp {zs:List Int} {h:Nat→Nat} {p:Nat} (H:Fin zs h p):∃ l,qY zs h p l:=by
 induction H with
 | mk p _ ih =>
  have hc:∀ i,∃ l,i < Tm.room (sg zs (hd zs h p))→qY zs h (Tm.pos zs (hd zs h p) i) l:=fun i=>by
   by_cases hi:i < Tm.room (sg zs (hd zs h p))
   ·obtain ⟨l,hl⟩:=ih i hi
    exact ⟨l,fun _=>hl⟩
   ·exact ⟨[],fun hi'=>absurd hi' hi⟩
  obtain ⟨f,hf⟩:=Classical.axiomOfChoice hc;refine ⟨_,qY.mk p ((List.range (Tm.room (sg zs (hd zs h p)))).map f) (by simp) fun i hi=>?_⟩;have:=hf i hi
  simpa [hi] using this
theorem qY.one {zs:List Int} {h:Nat→Nat} {p:Nat} {l:List Int} (H:qY zs h p l):∀ l',qY zs h p l'→l = l':=by
 induction H with
 | mk p ls hl _ ih =>
  intro l' H';cases H' with
  | mk _ ls' hl' hk' =>
   congr 2;refine List.ext_getElem (by omega) fun i h1 h2=>?_
   have:=ih i (by omega) _ (hk' i (by omega))
   simpa [h1,h2] using this
theorem qY.move {zs:List Int} {h:Nat→Nat} {p q:Nat} {l:List Int} (H:qY zs h p l) (e:hd zs h p = hd zs h q):qY zs h q l:=by
 cases H with
 | mk _ ls hl hk =>
  rw [e] at hl hk ⊢;exact qY.mk q ls hl hk
theorem qY.most {zs:List Int} (G:Good zs) {T:Nat→Option Nat} {h:Nat→Nat} (S:St zs T h) {θ:Sb} (R:iY zs h θ) {p:Nat} {l:List Int} (H:qY zs h p l):p < zs.length→App θ (cont zs p) = App θ l:=by
 induction H with
 | mk p ls hl _ ih =>
  intro hp;obtain ⟨hq,_,_⟩:=nQ G S hp;rw [R.hd G hp];by_cases hs:sg zs (hd zs h p) < 0
  ·have:ls = []:=List.eq_nil_of_length_eq_zero (by rw [hl,gM hs])
   rw [qp G hq hs,this];rfl
  ·rw [qw G θ hq (by omega),App_cons,if_neg hs,App_flatten]
   congr 2;refine List.ext_getElem (by simp [kids,hl]) fun i h1 h2=>?_
   have hi:i < Tm.room (sg zs (hd zs h p)):=by simpa [kids] using h1
   have:=ih i hi (jL G hq hi)
   rw [List.getElem_map,List.getElem_map];have e:(kids zs (hd zs h p))[i]'(by simpa [kids] using hi) = Tm.pos zs (hd zs h p) i:=by simp [kids]
   rw [e,this];simp [show i < ls.length by omega]
theorem OE {zs:List Int} {h:Nat→Nat} {p q:Nat} (e:Jm zs h [] p q):hd zs h p = hd zs h q:=by
 induction e with
 | base p q _ _ h3=>exact h3
 | pair p q hm=>simp at hm
 | symm p q _ ih=>exact ih.symm
 | trans p q r _ _ i1 i2=>exact i1.trans i2
theorem R7 {zs:List Int} (G:Good zs) {p i:Nat} (hp:p < zs.length) (hi:i < Tm.room (sg zs p)):(cont zs (Tm.pos zs p i)).length < (cont zs p).length:=by
 rw [Df G hp,List.length_cons];have:cont zs (Tm.pos zs p i)∈(kids zs p).map (cont zs):=List.mem_map.2 ⟨_,List.mem_map.2 ⟨i,List.mem_range.2 hi,rfl⟩,rfl⟩
 have h2:∀ (L:List (List Int)) (x:List Int),x∈L→x.length≤L.flatten.length:=by
  intro L;induction L with
  | nil=>intro x hx;simp at hx
  | cons y L ih =>
   intro x hx;rw [List.flatten_cons,List.length_append];rcases List.mem_cons.1 hx with rfl | hx
   ·omega
   ·have:=ih x hx;omega
 have:=h2 _ _ this
 omega
theorem qY.yY {zs:List Int} (G:Good zs) {T:Nat→Option Nat} {h:Nat→Nat} (S:St zs T h) (C:Closed zs h []) {σ:Sb} (hσ:∀ i,i < 8→qY zs h i (σ (-1 - (i:Int)))):∀ (n p:Nat),(cont zs p).length≤n→p < zs.length→qY zs h p (App σ (cont zs p)):=by
 intro n;induction n with
 | zero=>intro p hn hp;rw [Df G hp] at hn;simp at hn
 | succ n ih =>
  intro p hn hp;by_cases hs:sg zs p < 0
  ·have hk:=G.known p hp
   have hc:can zs p = (-1 - sg zs p).toNat:=by unfold can;rw [if_pos hs]
   have he:=hσ (-1 - sg zs p).toNat (by omega);rw [show (-1 - (((-1 - sg zs p).toNat:Nat):Int)) = sg zs p from by omega,← hc] at he;rw [qp G hp hs,App_cons,if_pos hs,oO,List.append_nil];exact he.move (by unfold hd;rw [yO G hp])
  ·have hcp:can zs p = p:=oM (by omega)
   obtain ⟨hq,cq,rq⟩:=nQ G S hp;have hup:=Xi G S hp;have hhp:hd zs h p = h p:=by unfold hd;rw [hcp]
   obtain ⟨e1,e2⟩:=C p (hd zs h p) hp hq (by omega) (by omega) (by rw [rq,hhp]);rw [qw G σ hp (by omega),e1];have hlen:((kids zs p).map fun k=>App σ (cont zs k)).length = Tm.room (sg zs (hd zs h p)):=by rw [List.length_map,JG,e1]
   refine qY.mk p _ hlen fun i hi=>?_
   have hi':i < Tm.room (sg zs p):=by rw [e1];exact hi
   have hE:=ih (Tm.pos zs p i) (by have:=R7 G hp hi';omega) (jL G hp hi');have hm:=hE.move (OE (e2 i hi'));rw [List.getElem?_map,DR hi'];exact hm
theorem R8 {f:Int→List Int} (hf:∀ s,1≤(f s).length):∀ l:List Int,l.flatMap f = l→∀ s∈l,f s = [s]:=by
 have hge:∀ l:List Int,l.length≤(l.flatMap f).length:=by
  intro l;induction l with
  | nil=>simp
  | cons s l ih=>rw [List.flatMap_cons,List.length_append,List.length_cons];have:=hf s;omega
 intro l;induction l with
 | nil=>intro _ s hs;simp at hs
 | cons x l ih =>
  intro h s hs;rw [List.flatMap_cons] at h;have h1:=hf x;have h2:=hge l;have h3:=congrArg List.length h;rw [List.length_append,List.length_cons] at h3;have h4:(f x).length = 1:=by omega
  obtain ⟨y,hy⟩:=List.length_eq_one_iff.1 h4;rw [hy,List.singleton_append] at h;obtain ⟨rfl,h5⟩:=List.cons.inj h;rcases List.mem_cons.1 hs with rfl | hs
  ·exact hy
  ·exact ih h5 s hs
theorem DW {θ:Sb} (hθ:TermSb θ) {s:Int} (hs:s < 0):1≤(θ s).length:=by
 have:=hθ s hs
 have h2:=Tm.GL (θ s) 1;omega
theorem Sa {θ:Sb} (hθ:TermSb θ):∀ l:List Int,l.length≤(App θ l).length:=by
 intro l;induction l with
 | nil=>simp
 | cons s l ih =>
  rw [App_cons,List.length_append,List.length_cons];by_cases hs:s < 0
  ·rw [if_pos hs];have:=DW hθ hs;omega
  ·rw [if_neg hs];simp;omega
def LC (l:List Int):Prop:=∀ s∈l,s < 0→-8≤s
theorem PW {σ τ:Sb} (hσ:TermSb σ) (hτ:TermSb τ) (rσ:∀ v,-8≤v→v < 0→LC (σ v)) (rτ:∀ v,-8≤v→v < 0→LC (τ v)) (h1:∀ v,-8≤v→v < 0→σ v = App σ (τ v)) (h2:∀ v,-8≤v→v < 0→τ v = App τ (σ v))
 (d1:∀ v u,-8≤v→v < 0→σ v = [u]→u < 0→v≤u) (d2:∀ v u,-8≤v→v < 0→τ v = [u]→u < 0→v≤u):∀ v,-8≤v→v < 0→σ v = τ v:=by
 intro v hv1 hv2;have hfix:(σ v).flatMap (fun s=>App σ (if s < 0 then τ s else [s])) = σ v:=by
  have e:App σ (App τ (σ v)) = σ v:=by rw [← h2 v hv1 hv2,← h1 v hv1 hv2]
  conv=>rhs;rw [← e]
  unfold App;rw [List.flatMap_assoc]
 have hone:=R8 (f:=fun s=>App σ (if s < 0 then τ s else [s])) (fun s=>by
  by_cases hs:s < 0
  ·have h3:=Sa hσ (τ s)
   have h4:=DW hτ hs;simp only [hs,if_true];omega
  ·simp [hs,App]) (σ v) hfix
 have hkeep:∀ s∈σ v,s < 0→τ s = [s]:=fun u hu hu0=>by
  have hu8:=rσ v hv1 hv2 u hu hu0;have e:=hone u hu;simp only [hu0,if_true] at e;have hl:(τ u).length = 1:=by
   have h3:=Sa hσ (τ u);have h4:=DW hτ hu0;rw [e] at h3;simp at h3;omega
  obtain ⟨w,hw⟩:=List.length_eq_one_iff.1 hl;rw [hw,App_cons,oO,List.append_nil] at e;by_cases hw0:w < 0
  ·rw [if_pos hw0] at e
   have hw8:=rτ u hu8 hu0 w (by rw [hw];simp) hw0;have a:=d1 w u hw8 hw0 e hu0;have b:=d2 u w hu8 hu0 hw hw0;rw [hw];congr 1;omega
  ·rw [if_neg hw0] at e
   cases e;exact absurd hu0 hw0
 rw [h2 v hv1 hv2];have happ:∀ l:List Int,(∀ s∈l,s < 0→τ s = [s])→App τ l = l:=by
  intro l;induction l with
  | nil=>intro _;rfl
  | cons s l ih =>
   intro hk;rw [App_cons,ih (fun x hx=>hk x (by simp [hx]))];by_cases hs:s < 0
   ·rw [if_pos hs,hk s (by simp) hs];rfl
   ·rw [if_neg hs];rfl
 exact (happ _ hkeep).symm
end Wb
namespace Wb
def Sz (zs:List Int) (θ:Sb) (p:Nat):Nat:=(App θ (cont zs p)).length
theorem X9 {zs:List Int} (G:Good zs) (θ:Sb) {p i:Nat} (hp:p < zs.length) (hi:i < Tm.room (sg zs p)):Sz zs θ (Tm.pos zs p i) < Sz zs θ p:=by
 have hs:0≤sg zs p:=by
  by_cases h:sg zs p < 0
  ·rw [gM h] at hi;omega
  ·omega
 unfold Sz;rw [qw G θ hp hs,List.length_cons];have hm:App θ (cont zs (Tm.pos zs p i))∈(kids zs p).map fun k=>App θ (cont zs k):=List.mem_map.2 ⟨_,List.mem_map.2 ⟨i,List.mem_range.2 hi,rfl⟩,rfl⟩
 have h2:∀ (L:List (List Int)) (x:List Int),x∈L→x.length≤L.flatten.length:=by
  intro L;induction L with
  | nil=>intro x hx;simp at hx
  | cons y L ih =>
   intro x hx;rw [List.flatten_cons,List.length_append];rcases List.mem_cons.1 hx with rfl | hx
   ·omega
   ·have:=ih x hx;omega
 have:=h2 _ _ hm
 omega
theorem Xm {zs:List Int} (G:Good zs) {h:Nat→Nat} {θ:Sb} (R:iY zs h θ) {p:Nat} (hp:p < zs.length):Sz zs θ p = Sz zs θ (hd zs h p):=by
 unfold Sz;rw [R.hd G hp]
def None (zs:List Int) (h:Nat→Nat):Prop:=∀ θ,TermSb θ→iY zs h θ→False
def DX (zs:List Int) (h:Nat→Nat) (st:Nat→Nat) (p:Nat):Prop:=∀ θ,TermSb θ→iY zs h θ→∀ q,q < zs.length→st q = 1→Sz zs θ p < Sz zs θ q
def yZ (zs:List Int) (h:Nat→Nat) (st:Nat→Nat):Prop:=∀ q,q < zs.length→st q = 2→Fin zs h q
def lD (st:Nat→Nat) (p v:Nat):Nat→Nat:=fun q=>if q = p then v else st q
def fr (zs:List Int) (st:Nat→Nat):Nat:=((List.range zs.length).filter fun q=>decide (st q = 0)).length
theorem Sc {zs:List Int} {st:Nat→Nat} {p v:Nat} (hp:p < zs.length) (h0:st p = 0) (hv:v≠0):fr zs (lD st p v) < fr zs st:=by
 refine filter_lt _ _ _ (fun q _ hq=>?_) p (List.mem_range.2 hp) ?_ ?_
 ·simp only [decide_eq_true_eq] at hq ⊢
  unfold lD at hq;by_cases e:q = p
  ·rw [if_pos e] at hq;exact absurd hq hv
  ·rw [if_neg e] at hq;exact hq
 ·simp [lD,hv]
 ·simp [h0]
theorem filter_le {α:Type} (f g:α→Bool) (h:∀ x,f x = true→g x = true):∀ l:List α,(l.filter f).length≤(l.filter g).length:=by
 intro l;induction l with
 | nil=>simp
 | cons y l ih =>
  rw [List.filter_cons,List.filter_cons];by_cases hf:f y = true
  ·rw [if_pos hf,if_pos (h y hf)];simp;omega
  ·rw [if_neg hf];split <;> (try simp) <;> omega
theorem JK {zs:List Int} (G:Good zs) {T:Nat→Option Nat} {h:Nat→Nat} (S:St zs T h) {st:Nat→Nat} {p:Nat} (hp:p < zs.length) (B:DX zs h st p) (e:st (hd zs h p) = 1):None zs h:=fun θ hθ R=>by
 have:=B θ hθ R _ (nQ G S hp).1 e
 rw [Xm G R hp] at this;omega
theorem PX {zs:List Int} (G:Good zs) {T:Nat→Option Nat} {h:Nat→Nat} (S:St zs T h) {st st1:Nat→Nat} {p i:Nat} (hp:p < zs.length) (B:DX zs h st p) (hi:i < Tm.room (sg zs (hd zs h p))) (hs:∀ x,st1 x = 1 ↔ lD st (hd zs h p) 1 x = 1):DX zs h st1 (Tm.pos zs (hd zs h p) i):=fun θ hθ R x hx e=>by
 have hk:=X9 G θ (nQ G S hp).1 hi;have e':=(hs x).1 e;unfold lD at e';by_cases ex:x = hd zs h p
 ·subst ex;exact hk
 ·rw [if_neg ex] at e'
  have:=B θ hθ R x hx e'
  rw [Xm G R hp] at this;omega
theorem JL {zs:List Int} {h:Nat→Nat} {p q:Nat} (e:hd zs h p = hd zs h q) (H:Fin zs h p):Fin zs h q:=by
 cases H with
 | mk _ hk=>rw [e] at hk;exact Fin.mk q hk
theorem Xn {zs:List Int} (G:Good zs) {T:Nat→Option Nat} {h:Nat→Nat} (S:St zs T h) {p:Nat} (hp:p < zs.length):hd zs h (hd zs h p) = hd zs h p:=by
 obtain ⟨_,h2,h3⟩:=nQ G S hp;conv=>lhs;rw [hd]
 rw [h2,h3]
structure Left (zs:List Int) (h:Nat→Nat) (st st':Nat→Nat):Prop where
 one:∀ x,st' x = 1 ↔ st x = 1
 OG:yZ zs h st'
 less:fr zs st'≤fr zs st
theorem Left.refl {zs:List Int} {h:Nat→Nat} {st:Nat→Nat} (D:yZ zs h st):Left zs h st st:=⟨fun _=>Iff.rfl,D,Nat.le_refl _⟩
theorem Left.trans {zs:List Int} {h:Nat→Nat} {a b c:Nat→Nat} (A:Left zs h a b) (B:Left zs h b c):Left zs h a c:=⟨fun x=>(B.one x).trans (A.one x),B.OG,Nat.le_trans B.less A.less⟩
theorem LD {zs:List Int} {h:Nat→Nat} {st:Nat→Nat} (D:yZ zs h st) (q:Nat):yZ zs h (lD st q 1):=fun x hx e=>by
 unfold lD at e;by_cases ex:x = q
 ·rw [if_pos ex] at e;omega
 ·rw [if_neg ex] at e;exact D x hx e
theorem Left.close {zs:List Int} (G:Good zs) {T:Nat→Option Nat} {h:Nat→Nat} (S:St zs T h) {st st1:Nat→Nat} {p:Nat} (hp:p < zs.length) (h0:st (hd zs h p) = 0) (L:Left zs h (lD st (hd zs h p) 1) st1) (K:∀ i,i < Tm.room (sg zs (hd zs h p))→Fin zs h (Tm.pos zs (hd zs h p) i)) :
 Fin zs h p∧Left zs h st (lD st1 (hd zs h p) 2)∧fr zs (lD st1 (hd zs h p) 2) < fr zs st:=by
 have hF:Fin zs h p:=Fin.mk p K;have hF2:Fin zs h (hd zs h p):=JL (Xn G S hp).symm hF;have hlt:=Sc (v:=1) (nQ G S hp).1 h0 (by omega);have h1:st1 (hd zs h p) = 1:=(L.one _).2 (by simp [lD]);have hle:fr zs (lD st1 (hd zs h p) 2)≤fr zs st1:=by
  unfold fr;refine filter_le _ _ (fun q hq=>?_) _;simp only [decide_eq_true_eq] at hq ⊢;unfold lD at hq;by_cases e:q = hd zs h p
  ·rw [if_pos e] at hq;omega
  ·rw [if_neg e] at hq;exact hq
 refine ⟨hF,⟨fun x=>?_,fun x hx e=>?_,by have:=L.less;omega⟩,by have:=L.less;omega⟩
 ·unfold lD
  by_cases e:x = hd zs h p
  ·subst e;rw [if_pos rfl];constructor <;> intro h' <;> omega
  ·rw [if_neg e,L.one x];unfold lD;rw [if_neg e]
 ·unfold lD at e
  by_cases ex:x = hd zs h p
  ·subst ex;exact hF2
  ·rw [if_neg ex] at e;exact L.OG x hx e
end Wb
end Go.Proofs.YtglohanbpjaieaaGreat
namespace Go.Proofs.YtglohanbpjaieaaGreat
open Go.Proofs Go.RowKit Go.Shelf Go.Maps
section
attribute [local go_sem] Oper.semAt_some
def iJ (W:World) (Bs N:Nat) (st:Nat→Nat):Prop:=∃ M,dh W Bs N M∧∀ p:Nat,(M (p:Int)).getD (.int .i64 0) = .int .i64 (st p:Int)∧st p≤2
theorem iJ.made (w:World):iJ (w.alloc (.map #[] 0)) w.heap.size 0 (fun _=>0):=⟨_,dh.made w,fun _=>⟨rfl,Nat.zero_le _⟩⟩
theorem iJ.lt {W:World} {Bs N:Nat} {st:Nat→Nat} (h:iJ W Bs N st):Bs < W.heap.size:=by
 obtain ⟨M,hM,_⟩:=h;exact hM.lt
theorem iJ.keep {W W':World} {Bs N:Nat} {st:Nat→Nat} (h:iJ W Bs N st) (hk:W'.heap[Bs]? = W.heap[Bs]?):iJ W' Bs N st:=by
 obtain ⟨M,hM,hs⟩:=h;exact ⟨M,hM.keep hk,hs⟩
theorem iJ.set {W1:World} {Bs N:Nat} {st:Nat→Nat} {M:Int→Option Value} (hs:∀ p:Nat,(M (p:Int)).getD (.int .i64 0) = .int .i64 (st p:Int)∧st p≤2) {q v:Nat} (hv:v≤2) (h1:dh W1 Bs (N+1) (upd M (q:Int) (.int .i64 (v:Int)))):iJ W1 Bs (N+1) (Wb.lD st q v):=by
 refine ⟨_,h1,fun p=>?_⟩;by_cases e:p = q
 ·subst e;rw [upd_same];simp [Wb.lD,hv]
 ·rw [gP _ _ (by omega),(hs p).1];simp [Wb.lD,e,(hs p).2]
theorem iJ.le {W:World} {Bs N:Nat} {st:Nat→Nat} (h:iJ W Bs N st) (p:Nat):st p≤2:=by
 obtain ⟨M,_,hs⟩:=h;exact (hs p).2
def JM (W':World) (e:Ending) (Bs N:Nat) (zs:List Int) (h:Nat→Nat) (st:Nat→Nat) (p:Nat):Prop :=
 (e = .returned (.bool true)∧Wb.None zs h)∨(e = .returned (.bool false)∧Wb.Fin zs h p∧∃ st' N',Wb.Left zs h st st'∧iJ W' Bs N' st'∧N'+2 * Wb.fr zs st'≤N+2 * Wb.fr zs st)
theorem F5 (zs:List Int) (G:Wb.Good zs) (T:Nat→Option Nat) (h:Nat→Nat) (S:Wb.St zs T h) (st:Nat→Nat) (Bw Bm Bs:Nat) (a:Option Addr) (cap N0 N p:Nat) (w:World) (hW:dE w Bw Bm a cap zs N0 T) (hS:iJ w Bs N st) (hp:p < zs.length) (hB:Wb.DX zs h st p) (hD:Wb.yZ zs h st)
 (hst:st (Wb.hd zs h p) = 1∨st (Wb.hd zs h p) = 2) :
 Calls Tryz.prog 139 #[.pointer (some ⟨Bw,0,none⟩),.int .i64 (p:Int),.map (some Bs)] w fun e w'=>Below w.heap.size w w'∧JM w' e Bs N zs h st p:=by
 obtain ⟨F,hF⟩:∃ F,F = Fence.wide:=⟨_,rfl⟩;refine (callsIn_wide (n:=3)).1 ?_;rw [← hF];obtain ⟨hro,hfn,hdd,jv⟩:=fC hF;have qz:Hid (Pl F):=by rw [hF];exact iZ
 clear hF;have hf1:=hfn 139;have hf2:=hfn 137;clear hfn;have hl5:=G.len;have hB0:Below w.heap.size w (((w.alloc (.cells #[.pointer (some ⟨Bw,0,none⟩)] 163)).alloc (.cells #[.map (some Bs)] 154)).alloc (.cells #[.bool false] 4)) :=
  (((Below.refl _ w).alloc (Nat.le_refl _) _).alloc (by simp) _).alloc (by simp;omega) _
 have bW:=((Boxed.new w 163 (.pointer (some ⟨Bw,0,none⟩))).alloc (.cells #[.map (some Bs)] 154)).alloc (.cells #[.bool false] 4);have bS:=(Boxed.new (w.alloc (.cells #[.pointer (some ⟨Bw,0,none⟩)] 163)) 154 (.map (some Bs))).alloc (.cells #[.bool false] 4);have bR:=Boxed.new ((w.alloc (.cells #[.pointer (some ⟨Bw,0,none⟩)] 163)).alloc (.cells #[.map (some Bs)] 154)) 4 (.bool false);simp only [World.size_alloc] at bS bR;have hH:=hid (yQ F qz.out (3 - 1) zs T h G S Bw Bm a cap N0 p hp _ (hW.below hB0));have hS0:=hS.keep (hB0.block _ hS.lt);obtain ⟨W3,hW3⟩:∃ W3,((w.alloc (.cells #[.pointer (some ⟨Bw,0,none⟩)] 163)).alloc (.cells #[.map (some Bs)] 154)).alloc (.cells #[.bool false] 4) = W3:=⟨_,rfl⟩;have HW3:=hid hW3;rw [hW3] at hB0 bW bS bR hH hS0;have Ya:=hS0;obtain ⟨M,hM,hms⟩:=Ya;have OH:=hS.lt;have hcW:=bW.cell;have hcS:=bS.cell;have hcR:=bR.cell;have hfR:=bR.frozen;obtain ⟨hr1,_,_⟩:=Wb.nQ G S hp;have hwf:=wfN (n:=Wb.hd zs h p) (by omega);have hmr:=(hms (Wb.hd zs h p)).1;have HG:=hid G;have HSt:=hid S;have HMp:=hid hM;clear hW3 G S hM hms hW hS;rcases hst with hst | hst
 ·rw [hst] at hmr
  have yT:=hid (Wb.JK HG.out HSt.out hp hB hst);clear hst hB hD hS0;generalize Wb.hd zs h p = r at *;refine callsIn_of_wp Tryz.func139 rfl hf1 ?_ hro;simp only [Tryz.ntmps139,List.size_toArray,List.length_cons,List.length_nil,Nat.reduceAdd,Nat.reduceSub,Array.replicate_succ,Array.replicate_zero,List.push_toArray,List.append_toArray,List.nil_append,List.cons_append];gi_wp2_with (first
   | ((try refine ⟨hdd _,?_⟩);gi_at_call 137;rw [HW3.out];refine hH.out.mono ?_;clear hH;rintro e W3 ⟨rfl,rfl⟩)
   | (gi_at_lookup;(refine DY _ rfl _ _ 154 rfl 3 Tryz.underlying154 (lZ _) Bs N M rfl HMp.out (r:Int) rfl hwf (.int .i64 1) hmr ?_)))
  refine bodyPost_ret (ja rfl rfl (bR.set _).cell) rfl ?_;exact ⟨hB0.setCell (p:=⟨w.heap.size+1+1,0,none⟩) (show w.heap.size≤w.heap.size+1+1 by omega) _,.inl ⟨rfl,yT.out⟩⟩
 ·rw [hst] at hmr
  have Si:=hid (Wb.JL (Wb.Xn HG.out HSt.out hp) (hD _ hr1 hst));have Sj:=hid (Wb.Left.refl hD);have hSM:Hid (iJ W3 Bs N st):=hS0;clear hst hB hD hS0;generalize Wb.hd zs h p = r at *;refine callsIn_of_wp Tryz.func139 rfl hf1 ?_ hro;simp only [Tryz.ntmps139,List.size_toArray,List.length_cons,List.length_nil,Nat.reduceAdd,Nat.reduceSub,Array.replicate_succ,Array.replicate_zero,List.push_toArray,List.append_toArray,List.nil_append,List.cons_append];gi_wp2_with (first
   | ((try refine ⟨hdd _,?_⟩);gi_at_call 137;rw [HW3.out];refine hH.out.mono ?_;clear hH;rintro e W3 ⟨rfl,rfl⟩)
   | (gi_at_lookup;(refine DY _ rfl _ _ 154 rfl 3 Tryz.underlying154 (lZ _) Bs N M rfl HMp.out (r:Int) rfl hwf (.int .i64 2) hmr ?_)))
  refine bodyPost_ret (ja rfl rfl (bR.set _).cell) rfl ?_;refine ⟨hB0.setCell (p:=⟨w.heap.size+1+1,0,none⟩) (show w.heap.size≤w.heap.size+1+1 by omega) _,.inr ⟨rfl,Si.out,st,N,Sj.out,hSM.out.keep (Below.heap_setCell W3 ⟨w.heap.size+1+1,0,none⟩ _ Bs (show Bs≠w.heap.size+1+1 by omega)),Nat.le_refl _⟩⟩
end
end Go.Proofs.YtglohanbpjaieaaGreat
