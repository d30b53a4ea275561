/-
  Parts of the proof: Rst5, Rst6a.
-/
import Derived.Test.YtglohanbpjaieaaGreatBrt30
import Derived.OrdersHeld
import Derived.Deep.RegionHeld3
import Derived.Deep.DrawnRows
namespace Go.Proofs.YtglohanbpjaieaaGreat
open Go.Proofs Go.RowKit Go.Shelf Go.Maps
theorem wpAnyH_inv {P:Program} {md:Region.Mode} {ops:Array Oper} {Q:Exit→Act→World→Prop} {S:World→Prop} (I:Nat→Array Bool→Act→World→Prop)
 (hn:∀ n l a w,I n l a w→Region.ready md ops l = []→Q .normal a w) (h0:∀ l a w,I 0 l a w→Region.ready md ops l = [])
 (hs:∀ n l a w,I (n+1) l a w→∀ i∈Region.ready md ops l,wpOp P ops Q i (fun a' w'=>S w'∧I n (l.setIfInBounds i true) a' w') a w) :
 ∀ n l a w,I n l a w→wpAnyH P md ops Q S n l a w
 | 0,l,a,w,h=>⟨h0 l a w h,hn 0 l a w h (h0 l a w h)⟩
 | n+1,l,a,w,h=>⟨hn _ l a w h,fun i hi=>wpOp_mono (fun a' w' h'=>⟨h'.1,wpAnyH_inv I hn h0 hs n _ a' w' h'.2⟩) (hs n l a w h i hi)⟩
def F6 (A:Act) (x71 x76 x77 x82 x83 x8:Value):Act:=(((((A.put (some 71) x71).put (some 76) x76).put (some 77) x77).put (some 82) x82).put (some 83) x83).put (some 8) x8
theorem put_same (A:Act) (d:Nat) (x y:Value):(A.put (some d) x).put (some d) y = A.put (some d) y:=by
 simp [Act.put]
theorem put_swap (A:Act) {d e:Nat} (h:d≠e) (x y:Value):(A.put (some d) x).put (some e) y = (A.put (some e) y).put (some d) x:=Act.put_comm A x y (fun _ h1 h2=>by cases h1;cases h2;exact h rfl)
theorem eval_put (A:Act) {d:Nat} (h:d < A.tmps.size) (x:Value):(A.put (some d) x).eval (.tmp d) = x:=by
 simp [Act.put,Act.eval,h]
theorem eval_far (A:Act) {d e:Nat} (h:d≠e) (x:Value):(A.put (some d) x).eval (.tmp e) = A.eval (.tmp e):=by
 simp [Act.put,Act.eval,h]
theorem size_put (A:Act) (d:Option Nat) (x:Value):(A.put d x).tmps.size = A.tmps.size:=by
 cases d <;> simp [Act.put]
section
variable (A:Act) (a b c d e f v:Value)
theorem F6.p71:(F6 A a b c d e f).put (some 71) v = F6 A v b c d e f:=by
 unfold F6
 rw [put_swap _ (d:=8) (e:=71) (by decide),put_swap _ (d:=83) (e:=71) (by decide),put_swap _ (d:=82) (e:=71) (by decide),put_swap _ (d:=77) (e:=71) (by decide),put_swap _ (d:=76) (e:=71) (by decide),put_same]
theorem F6.p76:(F6 A a b c d e f).put (some 76) v = F6 A a v c d e f:=by
 unfold F6
 rw [put_swap _ (d:=8) (e:=76) (by decide),put_swap _ (d:=83) (e:=76) (by decide),put_swap _ (d:=82) (e:=76) (by decide),put_swap _ (d:=77) (e:=76) (by decide),put_same]
theorem F6.p77:(F6 A a b c d e f).put (some 77) v = F6 A a b v d e f:=by
 unfold F6
 rw [put_swap _ (d:=8) (e:=77) (by decide),put_swap _ (d:=83) (e:=77) (by decide),put_swap _ (d:=82) (e:=77) (by decide),put_same]
theorem F6.p82:(F6 A a b c d e f).put (some 82) v = F6 A a b c v e f:=by
 unfold F6
 rw [put_swap _ (d:=8) (e:=82) (by decide),put_swap _ (d:=83) (e:=82) (by decide),put_same]
theorem F6.p83:(F6 A a b c d e f).put (some 83) v = F6 A a b c d v f:=by
 unfold F6
 rw [put_swap _ (d:=8) (e:=83) (by decide),put_same]
theorem F6.p8:(F6 A a b c d e f).put (some 8) v = F6 A a b c d e v:=put_same _ _ _ _
theorem F6.evals (h:83 < A.tmps.size):(F6 A a b c d e f).eval (.tmp 71) = a∧(F6 A a b c d e f).eval (.tmp 76) = b∧(F6 A a b c d e f).eval (.tmp 77) = c∧(F6 A a b c d e f).eval (.tmp 82) = d∧(F6 A a b c d e f).eval (.tmp 83) = e∧(F6 A a b c d e f).eval (.tmp 8) = f∧(F6 A a b c d e f).eval (.tmp 75) = A.eval (.tmp 75)∧(F6 A a b c d e f).eval (.tmp 81) = A.eval (.tmp 81):=by
 unfold F6
 refine ⟨?_,?_,?_,?_,?_,?_,?_,?_⟩ <;> repeat (first | (rw [eval_far _ (by decide)]) | (rw [eval_put _ (by (try simp only [size_put]);omega)]))
end
def Stg (b:Nat) (w V:World) (p g:Nat) (x1 x2:Value) (P:List Int):Prop :=
 (p = 0∨(p = 1∧x1 = .slice (some ⟨g,0,none⟩) 0 0∧Rdy 3 b w V g)∨(p = 2∧∃ c,x2 = .slice (some ⟨g,0,none⟩) P.length c∧New b V x2 P))
theorem Stg.keep {b:Nat} {w V W:World} {p g:Nat} {x1 x2:Value} {P:List Int} (h:Stg b w V p g x1 x2 P) (hB:Below b w W) (hk:p≠0→W.heap[g]? = V.heap[g]?):Stg b w W p g x1 x2 P:=by
 rcases h with h | ⟨h,e,r⟩ | ⟨h,c,e,n⟩
 ·exact .inl h
 ·exact .inr (.inl ⟨h,e,⟨(hk (by omega)).trans r.1.1,r.1.2⟩,hB⟩)
 ·refine .inr (.inr ⟨h,c,e,?_⟩)
  subst e
  rcases n.2 with ⟨h3,_⟩ | ⟨g3,cap,cur,e3,k1,k2,k3⟩
  ·cases h3
  ·cases e3
   exact ⟨n.1,.inr ⟨_,_,cur,rfl,k1,(hk (by omega)).trans k2,k3⟩⟩
theorem Stg.lt {b:Nat} {w V:World} {p g:Nat} {x1 x2:Value} {P:List Int} (h:Stg b w V p g x1 x2 P) (hp:p≠0):g < V.heap.size∧∃ cs q,V.heap[g]? = some (.cells cs 3 q):=by
 rcases h with h | ⟨h,e,r⟩ | ⟨h,c,e,n⟩
 ·exact absurd h hp
 ·exact ⟨(Array.getElem?_eq_some_iff.1 r.1.1).1,_,_,r.1.1⟩
 ·subst e
  rcases n.2 with ⟨h3,_⟩ | ⟨g3,cap,cur,e3,k1,k2,k3⟩
  ·cases h3
  ·cases e3
   exact ⟨(Array.getElem?_eq_some_iff.1 k2).1,_,_,k2⟩
def lst (p q r s t:Nat):Array Bool:=#[decide (1≤p),true,true,true,true,decide (2≤p),decide (1≤q),true,true,true,true,decide (2≤q),decide (1≤s),decide (1≤r),decide (1≤t)]
def nxt (p q r s t:Nat):List Nat :=
 (if p = 0 then [0] else [])++(if p = 1 then [5] else [])++(if q = 0 then [6] else [])++(if q = 1∧p = 2 then [11] else [])++(if s = 0∧p = 2∧q = 2 then [12] else [])++(if r = 0 then [13] else [])++(if t = 0∧s = 1∧r = 1 then [14] else [])
def nxtOk (ops:Array Oper):Bool:=(List.range 3).all fun p=>(List.range 3).all fun q=>(List.range 2).all fun r=>(List.range 2).all fun s=>(List.range 2).all fun t =>
 if (q = 2→p = 2)∧(s = 1→p = 2∧q = 2)∧(t = 1→s = 1∧r = 1) then Region.ready .any ops (lst p q r s t) == nxt p q r s t else true
theorem nxtOk.out {ops:Array Oper} (h:nxtOk ops = true) {p q r s t:Nat} (hp:p≤2) (hq:q≤2) (hr:r≤1) (hs:s≤1) (ht:t≤1) (h0:q = 2→p = 2) (h1:s = 1→p = 2∧q = 2) (h2:t = 1→s = 1∧r = 1):Region.ready .any ops (lst p q r s t) = nxt p q r s t:=by
 unfold nxtOk at h
 have:=List.all_eq_true.1 (List.all_eq_true.1 (List.all_eq_true.1 (List.all_eq_true.1 (List.all_eq_true.1 h p (List.mem_range.2 (by omega))) q (List.mem_range.2 (by omega))) r (List.mem_range.2 (by omega))) s (List.mem_range.2 (by omega))) t (List.mem_range.2 (by omega))
 rw [if_pos ⟨h0,h1,h2⟩] at this
 exact eq_of_beq this
structure Two (b:Nat) (w:World) (A:Act) (P Q:List Int) (n:Nat) (l:Array Bool) (a:Act) (V:World) (p q r s t g h k:Nat) (x71 x76 x77 x82 x83 x8:Value):Prop where
 l:l = lst p q r s t
 a:a = F6 A x71 x76 x77 x82 x83 x8
 n:n+p+q+r+s+t = 7
 le:p≤2∧q≤2∧r≤1∧s≤1∧t≤1
 hq:q = 2→p = 2
 hs:s = 1→p = 2∧q = 2
 ht:t = 1→s = 1∧r = 1
 B:Below b w V
 P:Stg b w V p g x71 x76 P
 Q:Stg b w V q h x77 x82 Q
 ne:p≠0→q≠0→(p = 1∨q = 1)→g≠h
 s:s = 1→x83 = .agg #[x76,x82]
 r:r = 1→x8 = .pointer (some ⟨k,0,none⟩)∧b≤k∧∃ y z,V.heap[k]? = some (.cells #[y,z] 40 (0,0))∧(t = 1→y = x76∧z = x82)
theorem op_lit0 {o:Oper} {a:Act} {V:World} {K:Act→World→Prop} {Q:Exit→Act→World→Prop} (ho:o.op = .buildSlice 35 0 #[]) (h:K (a.put o.dst (.slice (some ⟨V.heap.size,0,none⟩) 0 0)) (V.alloc (.cells #[] 3))):Oper.wp Tryz.prog o a V K Q:=by
 unfold Oper.wp execOp
 simp only [ho]
 go_simp
 exact h
theorem op_pair {o:Oper} {a:Act} {V:World} {K:Act→World→Prop} {Q:Exit→Act→World→Prop} (ho:o.op = .alloc 40) (h:K (a.put o.dst (.pointer (some ⟨V.heap.size,0,none⟩))) (V.alloc (.cells #[.slice none 0 0,.slice none 0 0] 40))):Oper.wp Tryz.prog o a V K Q:=by
 unfold Oper.wp execOp
 simp only [ho]
 go_simp
 exact h
theorem op_built {o:Oper} {a:Act} {V:World} {K:Act→World→Prop} {Q:Exit→Act→World→Prop} {x y:Option Addr} {n m c d:Nat} (ho:o.op = .build 40 #[(0,.tmp 76),(1,.tmp 82)]) (hx:a.eval (.tmp 76) = .slice x n c) (hy:a.eval (.tmp 82) = .slice y m d) (h:K (a.put o.dst (.agg #[.slice x n c,.slice y m d])) V):Oper.wp Tryz.prog o a V K Q:=by
 have hx':a.tmps[76]?.getD undef = .slice x n c:=by simpa [Act.eval] using hx
 have hy':a.tmps[82]?.getD undef = .slice y m d:=by simpa [Act.eval] using hy
 unfold Oper.wp execOp
 simp only [ho]
 go_simp
 exact h
theorem op_store {o:Oper} {a:Act} {V:World} {K:Act→World→Prop} {Q:Exit→Act→World→Prop} {x y:Option Addr} {n m c d:Nat} {y0 z0:Value} {k:Nat} (ho:o.op = .store 40 (.tmp 8) (.tmp 83)) (hx:a.eval (.tmp 8) = .pointer (some ⟨k,0,none⟩)) (hy:a.eval (.tmp 83) = .agg #[.slice x n c,.slice y m d]) (hk:V.heap[k]? = some (.cells #[y0,z0] 40 (0,0))) (h:K (a.put o.dst undef) ((V.setCell ⟨k,0,none⟩ (.slice x n c)).setCell ⟨k,1,none⟩ (.slice y m d))):Oper.wp Tryz.prog o a V K Q:=by
 have h1:V.cell? ⟨k,0,none⟩ = some y0:=by simp [World.cell?,hk]
 have h2:V.cell? ⟨k,1,none⟩ = some z0:=by simp [World.cell?,hk]
 have h3:V.frozen? ⟨k,0,none⟩ = false:=by simp [World.frozen?,hk]
 have h4:V.frozen? ⟨k,1,none⟩ = false:=by simp [World.frozen?,hk]
 have hx':a.tmps[8]?.getD undef = .pointer (some ⟨k,0,none⟩):=by simpa [Act.eval] using hx
 have hy':a.tmps[83]?.getD undef = .agg #[.slice x n c,.slice y m d]:=by simpa [Act.eval] using hy
 unfold Oper.wp execOp
 simp only [ho]
 go_simp
 exact h
theorem set_at {V:World} {k i:Nat} {cs:Array Value} {e:TypeId} {p:Nat × Nat} (hk:V.heap[k]? = some (.cells cs e p)) (x:Value):(V.setCell ⟨k,i,none⟩ x).heap[k]? = some (.cells (cs.setIfInBounds i x) e p):=by
 unfold World.setCell
 simp only [Array.getElem?_modify,if_true,hk,Option.map_some]
 rfl
theorem two_set {V:World} {k:Nat} {y z:Value} {e:TypeId} (hk:V.heap[k]? = some (.cells #[y,z] e (0,0))) (x x':Value):((V.setCell ⟨k,0,none⟩ x).setCell ⟨k,1,none⟩ x').heap[k]? = some (.cells #[x,x'] e (0,0)):=set_at (set_at hk x) x'
theorem mem_if {c:Prop} [Decidable c] {i j:Nat} (h:i∈(if c then [j] else [])):c∧i = j:=by
 by_cases hc:c
 ·rw [if_pos hc] at h
  exact ⟨hc,List.mem_singleton.1 h⟩
 ·rw [if_neg hc] at h
  cases h
theorem wpOp_do {P:Program} {ops:Array Oper} {Q:Exit→Act→World→Prop} {i:Nat} {K:Act→World→Prop} {a:Act} {w:World} {o:Oper} (ho:ops[i]? = some o) (hg:o.guard = none) (h:Oper.wp P o a w K Q):wpOp P ops Q i K a w :=
 wpOp_step ho fun K' hK=>by
  rw [if_pos (by simp [Region.wanted,hg])]
  exact Oper.wp_mono hK h
set_option maxRecDepth 100000 in
theorem two_terms {ops:Array Oper} {R:Exit→Act→World→Prop} {S:World→Prop} {y0 y5 y6 y11 y12 y13 y14:TypeId} {p0 p5 p6 p11 p12 p13 p14:String} {f0 f5 f6 f11 f12 f13 f14:Array Edge}
 (o0:ops[0]? = some ⟨some 71,.buildSlice 35 0 #[],y0,p0,f0,none⟩)
 (o5:ops[5]? = some ⟨some 76,.call { callee:=.builtin .append,args:=#[.tmp 71,.tmp 75],argTypes:=#[35,35] },y5,p5,f5,none⟩)
 (o6:ops[6]? = some ⟨some 77,.buildSlice 35 0 #[],y6,p6,f6,none⟩)
 (o11:ops[11]? = some ⟨some 82,.call { callee:=.builtin .append,args:=#[.tmp 77,.tmp 81],argTypes:=#[35,35] },y11,p11,f11,none⟩)
 (o12:ops[12]? = some ⟨some 83,.build 40 #[(0,.tmp 76),(1,.tmp 82)],y12,p12,f12,none⟩)
 (o13:ops[13]? = some ⟨some 8,.alloc 40,y13,p13,f13,none⟩)
 (o14:ops[14]? = some ⟨none,.store 40 (.tmp 8) (.tmp 83),y14,p14,f14,none⟩)
 (ok:nxtOk ops = true) (b:Nat) (w:World) (hbw:b≤w.heap.size) (A:Act) (hA:83 < A.tmps.size) (P Q:List Int) (aP aQ:Addr) (cP cQ:Nat) (eP:A.eval (.tmp 75) = .slice (some aP) P.length cP) (eQ:A.eval (.tmp 81) = .slice (some aQ) Q.length cQ)
 (iP:∀ V,Below b w V→Ints b V (some aP) P) (iQ:∀ V,Below b w V→Ints b V (some aQ) Q) (pP:0 < P.length) (pQ:0 < Q.length) (lP:P.length≤1000) (lQ:Q.length≤1000) (hS:∀ V,Below b w V→S V)
 (hR:∀ V g c h d k x71 x77 x83,New b V (.slice (some ⟨g,0,none⟩) P.length c) P→New b V (.slice (some ⟨h,0,none⟩) Q.length d) Q→V.heap[k]? = some (.cells #[.slice (some ⟨g,0,none⟩) P.length c,.slice (some ⟨h,0,none⟩) Q.length d] 40 (0,0))→b≤k→Below b w V →
   R .normal (F6 A x71 (.slice (some ⟨g,0,none⟩) P.length c) x77 (.slice (some ⟨h,0,none⟩) Q.length d) x83 (.pointer (some ⟨k,0,none⟩))) V) :
 ∀ n l a V,(∃ p q r s t g h k x71 x76 x77 x82 x83 x8,Two b w A P Q n l a V p q r s t g h k x71 x76 x77 x82 x83 x8)→wpAnyH Tryz.prog .any ops R S n l a V:=by
 refine wpAnyH_inv _ ?_ ?_ ?_
 ·rintro n l a V ⟨p,q,r,s,t,g,h,k,x71,x76,x77,x82,x83,x8,T⟩ hr
  have hle:=T.le
  rw [T.l,nxtOk.out ok hle.1 hle.2.1 hle.2.2.1 hle.2.2.2.1 hle.2.2.2.2 T.hq T.hs T.ht] at hr
  unfold nxt at hr
  simp only [List.append_eq_nil_iff] at hr
  obtain ⟨⟨⟨⟨⟨⟨h0,h1⟩,h2⟩,h3⟩,h4⟩,h5⟩,h6⟩:=hr
  have hp:p = 2:=by
   by_cases c0:p = 0
   ·rw [if_pos c0] at h0;cases h0
   ·by_cases c1:p = 1
    ·rw [if_pos c1] at h1;cases h1
    ·omega
  have hq:q = 2:=by
   by_cases c0:q = 0
   ·rw [if_pos c0] at h2;cases h2
   ·by_cases c1:q = 1
    ·rw [if_pos ⟨c1,hp⟩] at h3;cases h3
    ·omega
  have hr:r = 1:=by
   by_cases c0:r = 0
   ·rw [if_pos c0] at h5;cases h5
   ·omega
  have hs:s = 1:=by
   by_cases c0:s = 0
   ·rw [if_pos ⟨c0,hp,hq⟩] at h4;cases h4
   ·omega
  have ht:t = 1:=by
   by_cases c0:t = 0
   ·rw [if_pos ⟨c0,hs,hr⟩] at h6;cases h6
   ·omega
  obtain ⟨e8,hbk,y,z,hk,hyz⟩:=T.r hr
  obtain ⟨rfl,rfl⟩:=hyz ht
  rcases T.P with c | ⟨c,_⟩ | ⟨_,c,e76,n76⟩
  ·omega
  ·omega
  rcases T.Q with c | ⟨c,_⟩ | ⟨_,d,e82,n82⟩
  ·omega
  ·omega
  rw [T.a]
  subst e76 e82 e8
  exact hR V g c h d k x71 x77 x83 n76 n82 hk hbk T.B
 ·rintro l a V ⟨p,q,r,s,t,g,h,k,x71,x76,x77,x82,x83,x8,T⟩
  have hle:=T.le
  have hn:=T.n
  rw [T.l,nxtOk.out ok hle.1 hle.2.1 hle.2.2.1 hle.2.2.2.1 hle.2.2.2.2 T.hq T.hs T.ht]
  obtain rfl:p = 2:=by omega
  obtain rfl:q = 2:=by omega
  obtain rfl:r = 1:=by omega
  obtain rfl:s = 1:=by omega
  obtain rfl:t = 1:=by omega
  rfl
 ·rintro n l a V ⟨p,q,r,s,t,g,h,k,x71,x76,x77,x82,x83,x8,T⟩ i hi
  have hle:=T.le
  have hn:=T.n
  have hbV:b≤V.heap.size:=Nat.le_trans hbw T.B.size
  have hev:=F6.evals A x71 x76 x77 x82 x83 x8 hA
  rw [T.l,nxtOk.out ok hle.1 hle.2.1 hle.2.2.1 hle.2.2.2.1 hle.2.2.2.2 T.hq T.hs T.ht] at hi
  have rk:∀ W:World,(∀ y z,V.heap[k]? = some (.cells #[y,z] 40 (0,0))→W.heap[k]? = V.heap[k]?)→(r = 1→x8 = .pointer (some ⟨k,0,none⟩)∧b≤k∧∃ y z,W.heap[k]? = some (.cells #[y,z] 40 (0,0))∧(t = 1→y = x76∧z = x82)):=fun W hW hr=>by
   obtain ⟨e8,hb,y,z,hk,hyz⟩:=T.r hr
   exact ⟨e8,hb,y,z,(hW y z hk).trans hk,hyz⟩
  have rl:∀ y z,V.heap[k]? = some (.cells #[y,z] 40 (0,0))→k < V.heap.size:=fun y z hk=>(Array.getElem?_eq_some_iff.1 hk).1
  have rne:∀ (j:Nat) (y z:Value) (cs:Array Value) (m:Nat × Nat),V.heap[k]? = some (.cells #[y,z] 40 (0,0))→V.heap[j]? = some (.cells cs 3 m)→k≠j:=fun j y z cs m h1 h2 e=>by
   subst e
   rw [h1] at h2
   simp only [Option.some.injEq,Obj.cells.injEq] at h2
   exact absurd h2.2.1 (by decide)
  unfold nxt at hi
  simp only [List.mem_append] at hi
  rcases hi with (((((hi | hi) | hi) | hi) | hi) | hi) | hi
  ·obtain ⟨rfl,rfl⟩:=mem_if hi
   have B':=T.B.alloc hbV (.cells #[] 3)
   refine wpOp_do o0 rfl ?_
   refine op_lit0 (by rfl) ?_
   refine ⟨hS _ B',1,q,r,s,t,V.heap.size,h,k,.slice (some ⟨V.heap.size,0,none⟩) 0 0,x76,x77,x82,x83,x8,?_⟩
   exact {
    l:=by rw [T.l];rfl
    a:=by rw [T.a];exact F6.p71 _ _ _ _ _ _ _ _
    n:=by omega
    le:=by omega
    hq:=fun h=>by have:=T.hq h;omega
    hs:=fun h=>by have:=T.hs h;omega
    ht:=T.ht
    B:=B'
    P:=.inr (.inl ⟨rfl,rfl,Rdy.new _ T.B hbV⟩)
    Q:=T.Q.keep B' fun hq=>Below.heap_alloc _ _ _ (T.Q.lt hq).1
    ne:=fun _ hq _=>by have:=(T.Q.lt hq).1;omega
    s:=T.s
    r:=rk _ fun y z hk=>Below.heap_alloc _ _ _ (rl y z hk) }
  ·obtain ⟨rfl,rfl⟩:=mem_if hi
   rcases T.P with c | ⟨_,e71,r71⟩ | ⟨c,_⟩
   ·omega
   ·refine wpOp_step o5 fun K' hK=>step_rdy_i V rfl (.tmp 71) (.tmp 75) rfl b g w (by rw [T.a,hev.1];exact e71) r71 aP P cP (by rw [T.a,hev.2.2.2.2.2.2.1];exact eP) pP iP hbw lP fun g' c' W nW dW tW zW kW=>hK _ _ ⟨hS W zW,2,q,r,s,t,g',h,k,x71,.slice (some ⟨g',0,none⟩) P.length c',x77,x82,x83,x8,?_⟩
    exact {
     l:=by rw [T.l];rfl
     a:=by rw [T.a];exact F6.p76 _ _ _ _ _ _ _ _
     n:=by omega
     le:=by omega
     hq:=fun _=>rfl
     hs:=fun h=>by have:=T.hs h;omega
     ht:=T.ht
     B:=zW
     P:=.inr (.inr ⟨rfl,c',rfl,nW⟩)
     Q:=T.Q.keep zW fun hq=>kW h (T.Q.lt hq).1 (Ne.symm (T.ne (by omega) hq (.inl rfl)))
     ne:=fun _ hq hor=>by
      rcases T.Q with c | ⟨_,_,r77⟩ | ⟨c,_⟩
      ·exact absurd c hq
      ·exact (dW h (Ne.symm (T.ne (by omega) hq (.inl rfl))) r77).2
      ·omega
     s:=fun h=>by have:=T.hs h;omega
     r:=fun hr=>by
      obtain ⟨e8,hb,y,z,hk,hyz⟩:=T.r hr
      refine ⟨e8,hb,y,z,(kW k (rl y z hk) (rne g y z _ _ hk r71.1.1)).trans hk,fun ht=>?_⟩
      have:=T.hs (T.ht ht).1
      omega }
   ·omega
  ·obtain ⟨rfl,rfl⟩:=mem_if hi
   have B':=T.B.alloc hbV (.cells #[] 3)
   refine wpOp_do o6 rfl ?_
   refine op_lit0 (by rfl) ?_
   refine ⟨hS _ B',p,1,r,s,t,g,V.heap.size,k,x71,x76,.slice (some ⟨V.heap.size,0,none⟩) 0 0,x82,x83,x8,?_⟩
   exact {
    l:=by rw [T.l];rfl
    a:=by rw [T.a];exact F6.p77 _ _ _ _ _ _ _ _
    n:=by omega
    le:=by omega
    hq:=fun h=>by omega
    hs:=fun h=>by have:=T.hs h;omega
    ht:=T.ht
    B:=B'
    P:=T.P.keep B' fun hq=>Below.heap_alloc _ _ _ (T.P.lt hq).1
    Q:=.inr (.inl ⟨rfl,rfl,Rdy.new _ T.B hbV⟩)
    ne:=fun hp _ _=>by have:=(T.P.lt hp).1;omega
    s:=T.s
    r:=rk _ fun y z hk=>Below.heap_alloc _ _ _ (rl y z hk) }
  ·obtain ⟨⟨rfl,rfl⟩,rfl⟩:=mem_if hi
   rcases T.Q with c | ⟨_,e77,r77⟩ | ⟨c,_⟩
   ·omega
   ·refine wpOp_step o11 fun K' hK=>step_rdy_i V rfl (.tmp 77) (.tmp 81) rfl b h w (by rw [T.a,hev.2.2.1];exact e77) r77 aQ Q cQ (by rw [T.a,hev.2.2.2.2.2.2.2];exact eQ) pQ iQ hbw lQ fun g' c' W nW dW tW zW kW=>hK _ _ ⟨hS W zW,2,2,r,s,t,g,g',k,x71,x76,x77,.slice (some ⟨g',0,none⟩) Q.length c',x83,x8,?_⟩
    exact {
     l:=by rw [T.l];rfl
     a:=by rw [T.a];exact F6.p82 _ _ _ _ _ _ _ _
     n:=by omega
     le:=by omega
     hq:=fun _=>rfl
     hs:=fun h=>by have:=T.hs h;omega
     ht:=T.ht
     B:=zW
     P:=T.P.keep zW fun hp=>kW g (T.P.lt hp).1 (T.ne hp (by omega) (.inr rfl))
     Q:=.inr (.inr ⟨rfl,c',rfl,nW⟩)
     ne:=fun _ _ hor=>by omega
     s:=fun h=>by have:=T.hs h;omega
     r:=fun hr=>by
      obtain ⟨e8,hb,y,z,hk,hyz⟩:=T.r hr
      refine ⟨e8,hb,y,z,(kW k (rl y z hk) (rne h y z _ _ hk r77.1.1)).trans hk,fun ht=>?_⟩
      have:=T.hs (T.ht ht).1
      omega }
   ·omega
  ·obtain ⟨⟨rfl,rfl,rfl⟩,rfl⟩:=mem_if hi
   rcases T.P with c | ⟨c,_⟩ | ⟨_,c,e76,n76⟩
   ·omega
   ·omega
   rcases T.Q with c' | ⟨c',_⟩ | ⟨_,d,e82,n82⟩
   ·omega
   ·omega
   refine wpOp_do o12 rfl ?_
   refine op_built (by rfl) (by rw [T.a,hev.2.1];exact e76) (by rw [T.a,hev.2.2.2.1];exact e82) ?_
   refine ⟨hS V T.B,2,2,r,1,t,g,h,k,x71,x76,x77,x82,.agg #[.slice (some ⟨g,0,none⟩) P.length c,.slice (some ⟨h,0,none⟩) Q.length d],x8,?_⟩
   exact {
    l:=by rw [T.l];rfl
    a:=by rw [T.a];exact F6.p83 _ _ _ _ _ _ _ _
    n:=by omega
    le:=by omega
    hq:=T.hq
    hs:=fun _=>⟨rfl,rfl⟩
    ht:=fun h=>by have:=T.ht h;omega
    B:=T.B
    P:=T.P
    Q:=T.Q
    ne:=T.ne
    s:=fun _=>by rw [e76,e82]
    r:=T.r }
  ·obtain ⟨rfl,rfl⟩:=mem_if hi
   have B':=T.B.alloc hbV (.cells #[.slice none 0 0,.slice none 0 0] 40)
   refine wpOp_do o13 rfl ?_
   refine op_pair (by rfl) ?_
   refine ⟨hS _ B',p,q,1,s,t,g,h,V.heap.size,x71,x76,x77,x82,x83,.pointer (some ⟨V.heap.size,0,none⟩),?_⟩
   exact {
    l:=by rw [T.l];rfl
    a:=by rw [T.a];exact F6.p8 _ _ _ _ _ _ _ _
    n:=by omega
    le:=by omega
    hq:=T.hq
    hs:=T.hs
    ht:=fun h=>by have:=T.ht h;omega
    B:=B'
    P:=T.P.keep B' fun hq=>Below.heap_alloc _ _ _ (T.P.lt hq).1
    Q:=T.Q.keep B' fun hq=>Below.heap_alloc _ _ _ (T.Q.lt hq).1
    ne:=T.ne
    s:=T.s
    r:=fun _=>⟨rfl,hbV,_,_,World.alloc_heap_new V _,fun h=>by have:=T.ht h;omega⟩ }
  ·obtain ⟨⟨rfl,rfl,rfl⟩,rfl⟩:=mem_if hi
   obtain ⟨rfl,rfl⟩:=T.hs rfl
   rcases T.P with c | ⟨c,_⟩ | ⟨_,c,e76,n76⟩
   ·omega
   ·omega
   rcases T.Q with c' | ⟨c',_⟩ | ⟨_,d,e82,n82⟩
   ·omega
   ·omega
   obtain ⟨e8,hbk,y,z,hk,_⟩:=T.r rfl
   have e83:=T.s rfl
   subst e76 e82
   have hne:∀ (j:Nat) (cs:Array Value) (m:Nat × Nat),V.heap[j]? = some (.cells cs 3 m)→((V.setCell ⟨k,0,none⟩ (.slice (some ⟨g,0,none⟩) P.length c)).setCell ⟨k,1,none⟩ (.slice (some ⟨h,0,none⟩) Q.length d)).heap[j]? = V.heap[j]?:=fun j cs m hj=>by
    have:=rne j y z cs m hk hj
    rw [Below.heap_setCell _ _ _ _ (Ne.symm this),Below.heap_setCell _ _ _ _ (Ne.symm this)]
   have B':Below b w ((V.setCell ⟨k,0,none⟩ (.slice (some ⟨g,0,none⟩) P.length c)).setCell ⟨k,1,none⟩ (.slice (some ⟨h,0,none⟩) Q.length d)):=(T.B.setCell (p:=⟨k,0,none⟩) hbk _).setCell (p:=⟨k,1,none⟩) hbk _
   refine wpOp_do o14 rfl ?_
   refine op_store (by rfl) (by rw [T.a,hev.2.2.2.2.2.1];exact e8) (by rw [T.a,hev.2.2.2.2.1];exact e83) hk ?_
   refine ⟨hS _ B',2,2,1,1,1,g,h,k,x71,.slice (some ⟨g,0,none⟩) P.length c,x77,.slice (some ⟨h,0,none⟩) Q.length d,x83,x8,?_⟩
   exact {
    l:=by rw [T.l];rfl
    a:=T.a
    n:=by omega
    le:=by omega
    hq:=T.hq
    hs:=fun _=>⟨rfl,rfl⟩
    ht:=fun _=>⟨rfl,rfl⟩
    B:=B'
    P:=T.P.keep B' fun hq=>by
     obtain ⟨_,cs,m,hj⟩:=T.P.lt hq
     exact hne _ cs m hj
    Q:=T.Q.keep B' fun hq=>by
     obtain ⟨_,cs,m,hj⟩:=T.Q.lt hq
     exact hne _ cs m hj
    ne:=T.ne
    s:=T.s
    r:=fun _=>⟨e8,hbk,_,_,two_set hk _ _,fun _=>⟨rfl,rfl⟩⟩ }
theorem two_terms0 {ops:Array Oper} {R:Exit→Act→World→Prop} {S:World→Prop} {y0 y5 y6 y11 y12 y13 y14:TypeId} {p0 p5 p6 p11 p12 p13 p14:String} {f0 f5 f6 f11 f12 f13 f14:Array Edge}
 (o0:ops[0]? = some ⟨some 71,.buildSlice 35 0 #[],y0,p0,f0,none⟩)
 (o5:ops[5]? = some ⟨some 76,.call { callee:=.builtin .append,args:=#[.tmp 71,.tmp 75],argTypes:=#[35,35] },y5,p5,f5,none⟩)
 (o6:ops[6]? = some ⟨some 77,.buildSlice 35 0 #[],y6,p6,f6,none⟩)
 (o11:ops[11]? = some ⟨some 82,.call { callee:=.builtin .append,args:=#[.tmp 77,.tmp 81],argTypes:=#[35,35] },y11,p11,f11,none⟩)
 (o12:ops[12]? = some ⟨some 83,.build 40 #[(0,.tmp 76),(1,.tmp 82)],y12,p12,f12,none⟩)
 (o13:ops[13]? = some ⟨some 8,.alloc 40,y13,p13,f13,none⟩)
 (o14:ops[14]? = some ⟨none,.store 40 (.tmp 8) (.tmp 83),y14,p14,f14,none⟩)
 (ok:nxtOk ops = true) (b:Nat) (w:World) (hbw:b≤w.heap.size) (A:Act) (hA:83 < A.tmps.size) (P Q:List Int) (aP aQ:Addr) (cP cQ:Nat) (eP:A.eval (.tmp 75) = .slice (some aP) P.length cP) (eQ:A.eval (.tmp 81) = .slice (some aQ) Q.length cQ)
 (iP:∀ V,Below b w V→Ints b V (some aP) P) (iQ:∀ V,Below b w V→Ints b V (some aQ) Q) (pP:0 < P.length) (pQ:0 < Q.length) (lP:P.length≤1000) (lQ:Q.length≤1000) (hS:∀ V,Below b w V→S V)
 (hR:∀ V g c h d k x71 x77 x83,New b V (.slice (some ⟨g,0,none⟩) P.length c) P→New b V (.slice (some ⟨h,0,none⟩) Q.length d) Q→V.heap[k]? = some (.cells #[.slice (some ⟨g,0,none⟩) P.length c,.slice (some ⟨h,0,none⟩) Q.length d] 40 (0,0))→b≤k→Below b w V →
   R .normal (F6 A x71 (.slice (some ⟨g,0,none⟩) P.length c) x77 (.slice (some ⟨h,0,none⟩) Q.length d) x83 (.pointer (some ⟨k,0,none⟩))) V)
 {l:Array Bool} (hl:l = lst 0 0 0 0 0) (h0:A = F6 A undef undef undef undef undef undef) (V:World) (hV:Below b w V):wpAnyH Tryz.prog .any ops R S 7 l A V :=
 two_terms o0 o5 o6 o11 o12 o13 o14 ok b w hbw A hA P Q aP aQ cP cQ eP eQ iP iQ pP pQ lP lQ hS hR 7 l A V ⟨0,0,0,0,0,0,0,0,undef,undef,undef,undef,undef,undef,hl,h0,rfl,by decide,fun h=>absurd h (by decide),fun h=>absurd h (by decide),fun h=>absurd h (by decide),hV,.inl rfl,.inl rfl,fun h=>absurd rfl h,fun h=>absurd h (by decide),fun h=>absurd h (by decide)⟩
end Go.Proofs.YtglohanbpjaieaaGreat
namespace Go.Proofs.YtglohanbpjaieaaGreat
open Go.Proofs Go.RowKit Go.Shelf Go.Maps Go.Deep
def spine:Nat→Code→Code
 | 0,c=>c
 | n+1,.seq _ b=>spine n b
 | _+1,c=>c
end Go.Proofs.YtglohanbpjaieaaGreat
