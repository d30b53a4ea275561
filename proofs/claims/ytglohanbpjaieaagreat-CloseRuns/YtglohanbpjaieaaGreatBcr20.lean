/-
  Parts of the proof: Clo5, Clo6, Prs9.
-/
import Derived.Test.YtglohanbpjaieaaGreatBcr19
import Derived.Test.YtglohanbpjaieaaGreatBcr5
import Derived.Test.YtglohanbpjaieaaGreatBcr16
namespace Go.Proofs.YtglohanbpjaieaaGreat
open Go.Proofs Go.RowKit Go.Shelf Go.Maps
def Tm.waysTo (n k:Nat):List (Nat × Nat):=(List.range k).flatMap fun j=>[(j,n),(n,j)]
def Tm.ways (n:Nat):List (Nat × Nat):=Tm.waysTo n n++[(n,n)]
theorem Tm.waysTo_succ (n k:Nat):Tm.waysTo n (k+1) = Tm.waysTo n k++[(k,n),(n,k)]:=by
 unfold Tm.waysTo
 rw [List.range_succ,List.flatMap_append]
 rfl
theorem Tm.waysTo_len (n k:Nat):(Tm.waysTo n k).length = 2 * k:=by
 induction k with
 | zero=>rfl
 | succ k ih=>rw [Tm.waysTo_succ,List.length_append,ih];simp;omega
theorem Tm.ways_len (n:Nat):(Tm.ways n).length = 2 * n+1:=by unfold Tm.ways;rw [List.length_append,Tm.waysTo_len];rfl
theorem Tm.waysTo_le (n k:Nat) (h:k≤n):∀ p∈Tm.waysTo n k,p.1≤n∧p.2≤n:=by
 intro p hp
 unfold Tm.waysTo at hp
 rw [List.mem_flatMap] at hp
 obtain ⟨j,hj,hp⟩:=hp
 rw [List.mem_range] at hj
 simp only [List.mem_cons,List.not_mem_nil,or_false] at hp
 rcases hp with rfl | rfl
 ·exact ⟨by show j≤n;omega,Nat.le_refl _⟩
 ·exact ⟨Nat.le_refl _,by show j≤n;omega⟩
theorem Tm.ways_le (n:Nat):∀ p∈Tm.ways n,p.1≤n∧p.2≤n:=by
 intro p hp
 unfold Tm.ways at hp
 rcases List.mem_append.1 hp with h | h
 ·exact Tm.waysTo_le n n (Nat.le_refl _) p h
 ·simp only [List.mem_cons,List.not_mem_nil,or_false] at h
  subst h
  exact ⟨Nat.le_refl _,Nat.le_refl _⟩
def Tm.LastTo (rs:RuleL) (ws:List (Nat × Nat)) (k:Nat) (ps:PairL):Prop:=∃ f:Nat→PairL,(∀ j,j < k→Tm.OfSays rs ((ws[j]?.getD (0,0)).1:Int) ((ws[j]?.getD (0,0)).2:Int) 0 (f j))∧ps = ((List.range k).map f).flatten
def Tm.LastSays (rs:RuleL) (ws:List (Nat × Nat)) (er:Int) (ps:PairL):Prop :=
 (er = 0∧Tm.LastTo rs ws ws.length ps)∨(er≠0∧ps = []∧∃ k qs,k < ws.length∧(∃ l,Tm.LastTo rs ws k l)∧Tm.OfSays rs ((ws[k]?.getD (0,0)).1:Int) ((ws[k]?.getD (0,0)).2:Int) er qs)
theorem Tm.LastTo.zero (rs:RuleL) (ws:List (Nat × Nat)):Tm.LastTo rs ws 0 []:=⟨fun _=>[],fun j hj=>by omega,rfl⟩
theorem Tm.LastTo.next {rs:RuleL} {ws:List (Nat × Nat)} {k:Nat} {l ps:PairL} (h:Tm.LastTo rs ws k l) (hs:Tm.OfSays rs ((ws[k]?.getD (0,0)).1:Int) ((ws[k]?.getD (0,0)).2:Int) 0 ps):Tm.LastTo rs ws (k+1) (l++ps):=by
 obtain ⟨f,h1,rfl⟩:=h
 refine ⟨fun j=>if j = k then ps else f j,fun j hj=>?_,?_⟩
 ·dsimp only
  by_cases e:j = k
  ·subst e;rw [if_pos rfl];exact hs
  ·rw [if_neg e];exact h1 j (by omega)
 ·rw [List.range_succ,List.map_append,List.flatten_append]
  simp only [List.map_cons,List.map_nil,if_pos,List.flatten_cons,List.flatten_nil,List.append_nil]
  congr 2
  refine List.map_congr_left fun j hj=>?_
  rw [List.mem_range] at hj
  rw [if_neg (by omega)]
theorem Tm.LastTo.len {rs:RuleL} {ws:List (Nat × Nat)} {k:Nat} {l:PairL} (h:Tm.LastTo rs ws k l):l.length≤30 * k:=by
 obtain ⟨f,h1,rfl⟩:=h
 induction k with
 | zero=>simp
 | succ k ih =>
  rw [List.range_succ,List.map_append,List.flatten_append,List.length_append]
  have:=ih fun j hj=>h1 j (by omega)
  have:=(h1 k (by omega)).len.2
  simp only [List.map_cons,List.map_nil,List.flatten_cons,List.flatten_nil,List.append_nil]
  omega
def NewW (base:Nat) (W:World) (v:Value) (ws:List (Nat × Nat)):Prop:=W.ownsRow base 133 2 v ws.length (ws.flatMap fun p=>[.int .i64 (p.1:Int),.int .i64 (p.2:Int)])
theorem NewW.nil (base:Nat) (W:World):NewW base W (.slice none 0 0) []:=World.ownsRow_nil _ _ _ _
theorem NewW.slice {base:Nat} {W:World} {v:Value} {ws:List (Nat × Nat)} (h:NewW base W v ws):∃ a c,v = .slice a ws.length c:=by
 rcases h.2 with ⟨rfl,h0⟩ | ⟨g,cap,cur,rfl,_⟩
 ·exact ⟨none,0,by rw [h0]⟩
 ·exact ⟨_,_,rfl⟩
theorem flat2_get (ws:List (Nat × Nat)) (k:Nat) (hk:k < ws.length):(ws.flatMap fun p=>[Value.int .i64 (p.1:Int),.int .i64 (p.2:Int)])[k * 2]? = some (.int .i64 ((ws[k]?.getD (0,0)).1:Int))∧(ws.flatMap fun p=>[Value.int .i64 (p.1:Int),.int .i64 (p.2:Int)])[k * 2+1]? = some (.int .i64 ((ws[k]?.getD (0,0)).2:Int)):=by
 induction ws generalizing k with
 | nil=>simp at hk
 | cons p l ih =>
  rw [List.flatMap_cons]
  cases k with
  | zero=>exact ⟨rfl,rfl⟩
  | succ k =>
   have:=ih k (by simpa using hk)
   rw [show (k+1) * 2 = k * 2+1+1 by omega]
   simpa using this
theorem flat2_len (ws:List (Nat × Nat)):(ws.flatMap fun p=>[Value.int .i64 (p.1:Int),.int .i64 (p.2:Int)]).length = ws.length * 2:=by
 induction ws with
 | nil=>rfl
 | cons p l ih=>rw [List.flatMap_cons,List.length_append,ih];simp;omega
theorem NewW.at {base:Nat} {W:World} {v:Value} {ws:List (Nat × Nat)} (h:NewW base W v ws) (hp:0 < ws.length):∃ g c,v = .slice (some ⟨g,0,none⟩) ws.length c∧g < W.heap.size∧∀ k,k < ws.length→W.cell? ⟨g,k * 2,none⟩ = some (.int .i64 ((ws[k]?.getD (0,0)).1:Int))∧W.cell? ⟨g,k * 2+1,none⟩ = some (.int .i64 ((ws[k]?.getD (0,0)).2:Int)):=by
 have hh:=h
 rcases h.2 with ⟨rfl,h0⟩ | ⟨g,cap,cur,rfl,hb,hg,r⟩
 ·omega
 ·refine ⟨g,cap,rfl,(Array.getElem?_eq_some_iff.1 hg).1,fun k hk=>?_⟩
  have cc:=fun j hj=>World.ownsRow.cellAt (show W.ownsRow base 133 2 (.slice (some ⟨g,0,none⟩) ws.length cap) ws.length (ws.flatMap fun p=>[.int .i64 (p.1:Int),.int .i64 (p.2:Int)]) from hh) j hj
  obtain ⟨e1,e2⟩:=flat2_get ws k hk
  exact ⟨by rw [cc _ (by omega),e1],by rw [cc _ (by omega),e2]⟩
theorem Tryz.info133:(Tryz.prog.info? 133).map (fun i=>(i.zero,i.size,i.bytes)) = some (some (.agg #[.int .i64 0,.int .i64 0]),2,16):=by kernel_rfl
theorem wp_app_w {ops:Array Oper} {rest:List Oper} {o:Oper} {a:Act} {Q:Exit→Act→World→Prop} (w:World) (hgd:o.guard = none) (s x:Operand)
 (ho:o.op = .call { callee:=.builtin .append,args:=#[s,x],argTypes:=#[132,132] }) (base:Nat) (v:Value) (ws us:List (Nat × Nat)) (hs:a.eval s = v) (hN:NewW base w v ws)
 (B m:Nat) (hm:m = us.length) (hx:a.eval x = .slice (some ⟨B,0,none⟩) m m) (hB:∀ j u,(us.flatMap fun p=>[Value.int .i64 (p.1:Int),.int .i64 (p.2:Int)])[j]? = some u→w.cell? ⟨B,j,none⟩ = some u) (hlen:ws.length+us.length≤100000) (hbase:base≤w.heap.size)
 (h:∀ v' w',NewW base w' v' (ws++us)→Below base w w'→wpList Tryz.prog ops Q rest (a.put o.dst v') w'):wpList Tryz.prog ops Q (o :: rest) a w:=by
 subst hm
 obtain ⟨i0,hi,hz0,hz1,hz2⟩:=info_parts Tryz.info133
 refine wpList_append_own w hgd s x 132 ho base 133 i0 (.agg #[.int .i64 0,.int .i64 0]) 2 16 Tryz.underlying132 hi hz0 hz1 hz2 rfl (by decide) v ws.length _ hs hN ⟨B,0,none⟩ us.length us.length (us.flatMap fun p=>[.int .i64 (p.1:Int),.int .i64 (p.2:Int)]) hx (by rw [flat2_len])
  (by intro j z hj;rw [Go.WideShapes.add_plain,Nat.zero_add];exact hB j z hj)
  (by
    intro u hu
    rw [List.mem_flatMap] at hu
    obtain ⟨p,_,hu⟩:=hu
    simp only [List.mem_cons,List.not_mem_nil,or_false] at hu
    rcases hu with rfl | rfl <;> rfl) (by unfold maxLen;omega) (by omega) hbase ?_
 intro v' w' hown hg _
 exact h v' w' (by unfold NewW;rw [List.length_append,List.flatMap_append];exact hown) ((Below.refl base w).grown hg hbase fun k e=>(World.ownsRow.lt hN k e).1)
set_option maxRecDepth 100000 in
set_option maxHeartbeats 4000000 in
theorem ofLast_any (b:Nat) (rs:RuleL) (a:Option Addr) (cap:Nat) (w:World) (hbw:b≤w.heap.size) (hR:RulesAt w.heap.size w a rs) (h0:0 < rs.length) (h8:rs.length≤8) :
 Calls Tryz.prog 62 #[.slice a rs.length cap] w fun e w'=>∃ er ps v,Tm.LastSays rs (Tm.ways (rs.length - 1)) er ps∧e = .returned (.tuple #[v,.int .i64 er])∧NewX false 40 w.heap.size b w' v ps∧Below w.heap.size w w':=by
 obtain ⟨n,hn⟩:∃ n,rs.length = n+1:=⟨rs.length - 1,by omega⟩
 have hn7:n≤7:=by omega
 have hni:(rs.length:Int) - 1 = (n:Int):=by omega
 have hn':(n:Int)≤7:=by omega
 rw [show rs.length - 1 = n by omega]
 have HR:=hid hR
 have Hn:=hid hn
 have hrl:(rs.length:Int)≤8:=by omega
 have hrl1:(1:Int)≤(rs.length:Int):=by omega
 clear hR hn
 go_enter Tryz.func62,Tryz.ntmps62
 go_wp2
 go_loopw [5,16] (fun ov v wr=>∃ k:Nat,k≤n∧v = .int .i64 (k:Int)∧Hid (NewW w.heap.size wr ov (Tm.waysTo n k))∧Below w.heap.size w wr) (fun _ v _=>n - (intOf v).toNat)
 case atStart=>exact ⟨0,Nat.zero_le _,rfl,hid (NewW.nil _ _),Below.refl _ _⟩
 case round =>
  obtain ⟨k,hk,rfl,hN,hB⟩:=hrel
  obtain ⟨va,vc,rfl⟩:=hN.out.slice
  have hwl:=Tm.waysTo_len n k
  by_cases hlt:k < n
  ·have hlt':(k:Int) < (n:Int):=by omega
   have hsn:=hid (Tm.waysTo_succ n k)
   have hle:(Tm.waysTo n k).length≤14:=by omega
   clear hwl
   generalize Tm.waysTo n k = ws at *
   have hbs:=hB.size
   have Na:=hid (show NewW w.heap.size (wr.alloc (.cells #[.int .i64 (k:Int),.int .i64 (n:Int),.int .i64 (n:Int),.int .i64 (k:Int)] 133)) (.slice va ws.length vc) ws from own_keep hN.out fun q hq=>Below.heap_alloc wr _ q (World.ownsRow.lt hN.out q hq).2)
   have Ba:=hid (hB.alloc hbs (.cells #[.int .i64 (k:Int),.int .i64 (n:Int),.int .i64 (n:Int),.int .i64 (k:Int)] 133))
   have Hc:Hid (∀ j u,([(k,n),(n,k)].flatMap fun p=>[Value.int .i64 (p.1:Int),.int .i64 (p.2:Int)])[j]? = some u→(wr.alloc (.cells #[.int .i64 (k:Int),.int .i64 (n:Int),.int .i64 (n:Int),.int .i64 (k:Int)] 133)).cell? ⟨wr.heap.size,j,none⟩ = some u):=fun j u hj=>by
    rw [cell_at (World.alloc_heap_new wr _)]
    simpa using hj
   go_wp2_with (at_builtin;go_loud (refine wp_app_w _ rfl _ _ rfl w.heap.size _ ws [(k,n),(n,k)] rfl Na.out wr.heap.size 2 rfl rfl Hc.out (by simp;omega) (by simp;omega) ?_);intro v2 w2 hN2 hB2;obtain ⟨a2,c2,rfl⟩:=hN2.slice)
   go_roundw
   case rel=>exact ⟨k+1,by omega,by go_num,by rw [hsn.out];simpa [Hid] using hN2,Ba.out.trans hB2⟩
   case measure=>simp [intOf];omega
  ·obtain rfl:k = n:=by omega
   have hwe:Hid (Tm.ways k = Tm.waysTo k k++[(k,k)]):=rfl
   have hle:(Tm.waysTo k k).length≤14:=by omega
   have hwl2:=hid (Tm.ways_len k)
   have Hle:=hid (Tm.ways_le k)
   clear hwl
   generalize Tm.waysTo k k = ws at *
   have hbs:=hB.size
   have Na:=hid (show NewW w.heap.size (wr.alloc (.cells #[.int .i64 (k:Int),.int .i64 (k:Int)] 133)) (.slice va ws.length vc) ws from own_keep hN.out fun q hq=>Below.heap_alloc wr _ q (World.ownsRow.lt hN.out q hq).2)
   have Ba:=hid (hB.alloc hbs (.cells #[.int .i64 (k:Int),.int .i64 (k:Int)] 133))
   have Hc:Hid (∀ j u,([(k,k)].flatMap fun p=>[Value.int .i64 (p.1:Int),.int .i64 (p.2:Int)])[j]? = some u→(wr.alloc (.cells #[.int .i64 (k:Int),.int .i64 (k:Int)] 133)).cell? ⟨wr.heap.size,j,none⟩ = some u):=fun j u hj=>by
    rw [cell_at (World.alloc_heap_new wr _)]
    simpa using hj
   go_wp2_with (at_builtin;go_loud (refine wp_app_w _ rfl _ _ rfl w.heap.size _ ws [(k,k)] rfl Na.out wr.heap.size 1 rfl rfl Hc.out (by simp;omega) (by simp;omega) ?_);intro v2 w2 hN2 hB2;rw [← hwe.out] at hN2;have B2:=Ba.out.trans hB2;obtain ⟨g2,c2,rfl,hg2,hcw⟩:=hN2.at (by have:=hwl2.out;omega);have Hcw:=hid hcw;have HN2:=hid hN2;clear hN2 hcw Na Ba Hc hB2)
   have hw15:(Tm.ways k).length≤15:=by have:=hwl2.out;omega
   have hw15':((Tm.ways k).length:Int)≤15:=by omega
   obtain ⟨wl,hwle⟩:∃ wl,Tm.ways k = wl:=⟨_,rfl⟩
   rw [hwle] at hw15 hw15' Hcw HN2 Hle hwl2 ⊢
   have Hwl:=hid hwle
   clear hwle hwe
   go_loopw [7,37] (fun ov v X=>∃ (m:Nat) (l:PairL),m≤wl.length∧v = .int .i64 (m:Int)∧Hid (Tm.LastTo rs wl m l)∧Hid (NewX false 40 w2.heap.size b X ov l)∧Below w2.heap.size w2 X) (fun _ v _=>wl.length - (intOf v).toNat)
   case atStart=>exact ⟨0,[],Nat.zero_le _,rfl,hid (Tm.LastTo.zero _ _),hid (NewX.nil _ _ _ _),Below.refl _ _⟩
   case round =>
    obtain ⟨X,rfl⟩:∃ X,X = wr:=⟨wr,rfl⟩
    obtain ⟨m,l,hm,rfl,hto,hNx,hBx⟩:=hrel
    obtain ⟨la,lc,rfl⟩:=hNx.out.slice
    have hlen:=hto.out.len
    have BX:=B2.trans (hBx.mono B2.size)
    by_cases hmt:m < wl.length
    ·have hmt':(m:Int) < (wl.length:Int):=by omega
     obtain ⟨z0,z1⟩:=Hcw.out m hmt
     have y0:=(hBx.cell (p:=⟨g2,m * 2,none⟩) hg2).trans z0
     have y1:=(hBx.cell (p:=⟨g2,m * 2+1,none⟩) hg2).trans z1
     have hmem:wl[m]?.getD (0,0)∈wl:=by rw [List.getElem?_eq_getElem hmt,Option.getD_some];exact List.getElem_mem hmt
     have hle2:=Hle.out _ hmem
     have hnx:=hid (fun ps hs=>hto.out.next (ps:=ps) hs)
     have hstop:Hid (∀ er qs,er≠0→Tm.OfSays rs ((wl[m]?.getD (0,0)).1:Int) ((wl[m]?.getD (0,0)).2:Int) er qs→Tm.LastSays rs wl er []):=fun er qs he hs=>.inr ⟨he,rfl,m,qs,hmt,⟨l,hto.out⟩,hs⟩
     clear z0 z1 hmem hto
     generalize (wl[m]?.getD (0,0)).1 = i1 at *
     generalize (wl[m]?.getD (0,0)).2 = i2 at *
     obtain ⟨W3,hW3⟩:∃ W3,X.alloc (.cells #[.int .i64 (i1:Int),.int .i64 (i2:Int)] 133) = W3:=⟨_,rfl⟩
     have hBa:Below X.heap.size X W3:=by rw [← hW3];exact (Below.refl _ _).alloc (Nat.le_refl _) _
     have bx:Box2 W3 X.heap.size 133 (.int .i64 (i1:Int)) (.int .i64 (i2:Int)):=by rw [← hW3];exact Box2.new X _ _ _
     have d0:=bx.cell0
     have d1:=bx.cell1
     have HW3:=hid hW3
     have BW3:=BX.trans (hBa.mono BX.size)
     have hC:=hid (Of_any rs (i1:Int) (i2:Int) a cap W3 ((HR.out.below BW3).mono BW3.size))
     clear hW3 bx
     go_wp2_with fail
     rw [HW3.out]
     go_wp2_with fail
     refine hC.out.mono ?_
     rintro e w4 ⟨er,qs,v4,hs4,rfl,hN4,b4⟩
     have N4:=hid (NewP.x (fl:=false) (eb:=b) hN4 (.inr (by have:=BW3.size;omega)))
     obtain ⟨a4,c4,rfl⟩:=hN4.slice
     have B4:=hBx.trans ((hBa.trans (b4.mono hBa.size)).mono hBx.size)
     have Bw4:=BW3.trans (b4.mono BW3.size)
     by_cases he:er = 0
     ·subst he
      have hql:=hs4.len.2
      have Hnx:=hid (hnx.out qs hs4)
      have M4:=hid ((hNx.out.below hBa).below b4)
      have hsz4:w2.heap.size≤w4.heap.size:=B4.size
      have hsw:w.heap.size≤w2.heap.size:=B2.size
      clear hC hN4 hs4 hnx hstop
      go_wp2_with (at_builtin;go_loud (refine wp_apps_p _ rfl _ _ rfl w2.heap.size b (by omega) _ l rfl M4.out _ qs rfl W3.heap.size N4.out (by omega) hsz4 ?_);intro v5 w5 hN5 hg5 hB5;obtain ⟨a5,c5,rfl⟩:=hN5.slice)
      go_roundw
      case rel=>exact ⟨m+1,l++qs,by omega,by go_num,Hnx,by simpa [Hid] using hN5,B4.trans hB5⟩
      case measure=>simp [intOf];omega
     ·have hne:(er != 0) = true:=by simpa using he
      have Hst:=hid (hstop.out er qs he hs4)
      clear hC hN4 hs4 hnx hstop he
      go_wp2
      go_ret2
      exact ⟨er,[],_,by rw [Hwl.out];exact Hst.out,rfl,NewX.nil _ _ _ _,Bw4⟩
    ·obtain rfl:m = wl.length:=by omega
     have Hst:Hid (Tm.LastSays rs wl 0 l):=.inl ⟨rfl,hto.out⟩
     clear hto
     go_wp2
     go_ret2
     exact ⟨0,l,_,by rw [Hwl.out];exact Hst.out,rfl,hNx.out.mono B2.size,BX⟩
def Tm.takenB (L:List Int) (r:List Int × List Int):Bool:=decide (0 < (Tm.overVal r.1 L).length)
def Tm.taken (L:List Int) (rs:RuleL):PairL:=rs.filter (Tm.takenB L)
def Tm.stays (L:List Int) (rs:RuleL):RuleL:=rs.filter fun r=>!Tm.takenB L r
def Tm.WithSays (rs:RuleL) (ps:PairL) (L R:List Int) (er:Int) (rs':RuleL) (ps':PairL):Prop :=
 (8 < (Tm.stays L rs).length+1∧er = 2∧rs' = []∧ps' = []) ∨
 ((Tm.stays L rs).length+1≤8∧∃ e q,Tm.LastSays (Tm.stays L rs++[(L,R)]) (Tm.ways (Tm.stays L rs).length) e q ∧
   ((e≠0∧er = e∧rs' = []∧ps' = [])∨(e = 0∧40 < (ps++Tm.taken L rs++q).length∧er = 2∧rs' = []∧ps' = [])∨(e = 0∧(ps++Tm.taken L rs++q).length≤40∧er = 0∧rs' = Tm.stays L rs++[(L,R)]∧ps' = ps++Tm.taken L rs++q)))
theorem Tm.stays_le (L:List Int) (rs:RuleL):(Tm.stays L rs).length≤rs.length:=List.length_filter_le _ _
theorem Tm.taken_le (L:List Int) (rs:RuleL):(Tm.taken L rs).length≤rs.length:=List.length_filter_le _ _
theorem Tm.stays_snoc {L:List Int} {rs:RuleL} {k:Nat} (hk:k < rs.length):Tm.stays L (rs.take (k+1)) = Tm.stays L (rs.take k)++(if Tm.takenB L ((rs[k]?.getD ([],[])).1,(rs[k]?.getD ([],[])).2) = true then [] else [((rs[k]?.getD ([],[])).1,(rs[k]?.getD ([],[])).2)]):=by
 unfold Tm.stays
 rw [takeP_snoc hk,List.filter_append]
 congr 1
 by_cases h:Tm.takenB L ((rs[k]?.getD ([],[])).1,(rs[k]?.getD ([],[])).2) = true
 ·rw [if_pos h];simp [h]
 ·rw [if_neg h];simp [h]
theorem Tm.taken_snoc {L:List Int} {rs:RuleL} {k:Nat} (hk:k < rs.length):Tm.taken L (rs.take (k+1)) = Tm.taken L (rs.take k)++(if Tm.takenB L ((rs[k]?.getD ([],[])).1,(rs[k]?.getD ([],[])).2) = true then [((rs[k]?.getD ([],[])).1,(rs[k]?.getD ([],[])).2)] else []):=by
 unfold Tm.taken
 rw [takeP_snoc hk,List.filter_append]
 congr 1
 by_cases h:Tm.takenB L ((rs[k]?.getD ([],[])).1,(rs[k]?.getD ([],[])).2) = true
 ·rw [if_pos h];simp [h]
 ·rw [if_neg h];simp [h]
structure WiInv (fl:Bool) (b n:Nat) (w:World) (lv:Value) (rs:RuleL) (aL aR:Option Addr) (cL cR:Nat) (L R:List Int) (ev sv':Value) (es ss:PairL) (W:World):Prop where
 ne:NewX fl 40 b b W ev es
 ns:NewX fl 54 (n+1) b W sv' ss
 nl:NewX fl 54 b b W lv rs
 bx:Box2 W n 54 (.slice aL L.length cL) (.slice aR R.length cR)
 iL:IntR fl b W aL L
 iR:IntR fl b W aR R
 kp:Below b w W
theorem WiInv.below {fl:Bool} {b n:Nat} {w:World} {lv:Value} {rs:RuleL} {aL aR:Option Addr} {cL cR:Nat} {L R:List Int} {ev sv':Value} {es ss:PairL} {W W':World} (h:WiInv fl b n w lv rs aL aR cL cR L R ev sv' es ss W) (hb:b≤w.heap.size) (hB:Below W.heap.size W W'):WiInv fl b n w lv rs aL aR cL cR L R ev sv' es ss W' :=
 ⟨h.ne.below hB,h.ns.below hB,h.nl.below hB,h.bx.below hB h.bx.lt,h.iL.below hB,h.iR.below hB,h.kp.trans (hB.mono (Nat.le_trans hb h.kp.size))⟩
theorem WiInv.pair {fl:Bool} {b n:Nat} {w:World} {lv:Value} {rs:RuleL} {aL aR:Option Addr} {cL cR:Nat} {L R:List Int} {ev ev' sv':Value} {es es' ss:PairL} {W W':World} (h:WiInv fl b n w lv rs aL aR cL cR L R ev sv' es ss W) (hg:W.grownBy W' ev.ownBlock) (hB:Below b W W') (hN:NewX fl 40 b b W' ev' es'):WiInv fl b n w lv rs aL aR cL cR L R ev' sv' es' ss W':=by
 have hr:∀ k,ev.ownBlock = some k→b≤k∧∃ cs,W.heap[k]? = some (.cells cs 40 (0,0)):=fun k hk=>⟨(h.ne.block hk).1,(h.ne.block hk).2.2⟩
 have hx:∀ {v:Value} {sb:Nat} {ps:PairL},NewX fl 54 sb b W v ps→NewX fl 54 sb b W' v ps:=fun hv=>hv.grown (e':=40) (by decide) hg fun k hk=>⟨(hr k hk).1,(hr k hk).2,fun e1=>by
  obtain ⟨_,_,cs,hc⟩:=hv.block e1
  obtain ⟨cs',hc'⟩:=(hr k hk).2
  rw [hc] at hc'
  simp only [Option.some.injEq,Obj.cells.injEq] at hc'
  exact absurd hc'.2.1 (by decide)⟩
 refine ⟨hN,hx h.ns,hx h.nl,h.bx.kept hg fun e1=>?_,h.iL.grown (by decide) hg hr,h.iR.grown (by decide) hg hr,h.kp.trans hB⟩
 obtain ⟨_,cs,hc⟩:=hr n e1.symm
 have hb:=h.bx
 unfold Box2 at hb
 rw [hb] at hc
 simp only [Option.some.injEq,Obj.cells.injEq] at hc
 exact absurd hc.2.1 (by decide)
theorem WiInv.rule {fl:Bool} {b n:Nat} {w:World} {lv:Value} {rs:RuleL} {aL aR:Option Addr} {cL cR:Nat} {L R:List Int} {ev sv' sv2:Value} {es ss ss':PairL} {W W':World} (h:WiInv fl b n w lv rs aL aR cL cR L R ev sv' es ss W) (hbn:b≤n) (hl:∀ k,lv.ownBlock = some k→k < n) (hg:W.grownBy W' sv'.ownBlock) (hB:Below (n+1) W W') (hN:NewX fl 54 (n+1) b W' sv2 ss'):WiInv fl b n w lv rs aL aR cL cR L R ev sv2 es ss' W':=by
 have hr:∀ k,sv'.ownBlock = some k→b≤k∧∃ cs,W.heap[k]? = some (.cells cs 54 (0,0)):=fun k hk=>⟨by have:=(h.ns.block hk).1;omega,(h.ns.block hk).2.2⟩
 refine ⟨h.ne.grown (e':=54) (by decide) hg fun k hk=>⟨(hr k hk).1,(hr k hk).2,fun e1=>?_⟩,hN,h.nl.grown (e':=54) (by decide) hg fun k hk=>⟨(hr k hk).1,(hr k hk).2,fun e1=>?_⟩,h.bx.kept hg fun e1=>?_,h.iL.grown (by decide) hg hr,h.iR.grown (by decide) hg hr,h.kp.trans (hB.mono (by omega))⟩
 ·obtain ⟨_,_,cs,hc⟩:=h.ne.block e1
  obtain ⟨cs',hc'⟩:=(hr k hk).2
  rw [hc] at hc'
  simp only [Option.some.injEq,Obj.cells.injEq] at hc'
  exact absurd hc'.2.1 (by decide)
 ·have:=hl k e1
  have:=(h.ns.block hk).1
  omega
 ·have:=(h.ns.block e1.symm).1
  omega
set_option maxRecDepth 100000 in
set_option maxHeartbeats 4000000 in
theorem with_any (b : Nat) (rs : RuleL) (ps : PairL) (L R : List Int) (lv ev : Value) (aL aR : Option Addr) (cL cR : Nat) (w : World) (hbw : b ≤ w.heap.size) (hl : NewX false 54 b b w lv rs) (he : NewX false 40 b b w ev ps) (hL : IntR false b w aL L) (hR : IntR false b w aR R) (eL : Tm.err L = 0) (c1 : L.length ≤ cL) (c2 : cL ≤ maxLen) (c3 : R.length ≤ cR) (c4 : cR ≤ maxLen)
    (hrs : ∀ k, k < rs.length → Tm.err (rs[k]?.getD ([], [])).1 = 0) (h8 : rs.length ≤ 8) (h40 : ps.length ≤ 40) :
    Calls Tryz.prog 33 #[lv, ev, .agg #[.slice aL L.length cL, .slice aR R.length cR]] w fun e w' => ∃ er rs' ps' v u, Tm.WithSays rs ps L R er rs' ps' ∧ e = .returned (.tuple #[v, u, .int .i64 er]) ∧ NewX false 54 b b w' v rs' ∧ NewX false 40 b b w' u ps' ∧ Below b w w' := by
  obtain ⟨W1, hW1⟩ : ∃ W1, w.alloc (.cells #[.slice aL L.length cL, .slice aR R.length cR] 54) = W1 := ⟨_, rfl⟩
  have hB1 : Below w.heap.size w W1 := by rw [← hW1]; exact (Below.refl _ _).alloc (Nat.le_refl _) _
  have bx : Box2 W1 w.heap.size 54 (.slice aL L.length cL) (.slice aR R.length cR) := by rw [← hW1]; exact Box2.new w _ _ _
  have I0 : Hid (WiInv false b w.heap.size w lv rs aL aR cL cR L R ev (.slice none 0 0) (ps ++ Tm.taken L (rs.take 0)) (Tm.stays L (rs.take 0)) W1) := ⟨by simpa [Tm.taken] using he.below hB1, by simpa [Tm.stays] using NewX.nil _ _ _ _, hl.below hB1, bx, hL.below hB1, hR.below hB1, hB1.mono hbw⟩
  have hll := hid (fun k (hk : lv.ownBlock = some k) => (hl.block hk).2.1)
  have Hrs := hid hrs
  have HW1 := hid hW1
  have hel : (ps ++ Tm.taken L (rs.take 0)).length ≤ 1000 := by simp [Tm.taken]; omega
  obtain ⟨al, cl, rfl⟩ := hl.slice
  obtain ⟨ae, ce, elen, rfl, hev⟩ : ∃ ae ce elen, ev = .slice ae elen ce ∧ elen = ps.length := by
    obtain ⟨a, c, h⟩ := he.slice
    exact ⟨a, c, _, h, rfl⟩
  have h8' : (rs.length : Int) ≤ 8 := by omega
  clear hl he hL hR hrs hW1 bx
  go_enter Tryz.func33, Tryz.ntmps33
  go_wp2_with fail
  rw [HW1.out]
  go_loopw [1, 9, 18] (fun xe xs v wr => ∃ k : Nat, k ≤ rs.length ∧ v = .int .i64 (k : Int) ∧ Hid (WiInv false b w.heap.size w (.slice al rs.length cl) rs aL aR cL cR L R xe xs (ps ++ Tm.taken L (rs.take k)) (Tm.stays L (rs.take k)) wr)) (fun _ _ v _ => rs.length - (intOf v).toNat)
  case atStart => exact ⟨0, Nat.zero_le _, rfl, I0⟩
  case round =>
    obtain ⟨k, hk, rfl, hI⟩ := hrel
    obtain ⟨ya, yc, rfl⟩ := hI.out.ne.slice
    obtain ⟨za, zc, rfl⟩ := hI.out.ns.slice
    have hnw : w.heap.size + 1 ≤ wr.heap.size := hI.out.bx.lt
    by_cases hlt : k < rs.length
    · have hlt' : (k : Int) < (rs.length : Int) := by omega
      obtain ⟨g, cp, aP, cP, aQ, cQ, el, hg, g1, g2, g3, g4, g5, g6, g7, g8⟩ := hI.out.nl.elem hlt
      simp only [Value.slice.injEq, true_and] at el
      obtain ⟨rfl, rfl⟩ := el
      rw [Nat.zero_add] at g1 g2
      have eP := Hrs.out k hlt
      have hs1 := hid (Tm.stays_snoc (L := L) hlt)
      have hs2 := hid (show ps ++ Tm.taken L (rs.take (k + 1)) = (ps ++ Tm.taken L (rs.take k)) ++ (if Tm.takenB L ((rs[k]?.getD ([], [])).1, (rs[k]?.getD ([], [])).2) = true then [((rs[k]?.getD ([], [])).1, (rs[k]?.getD ([], [])).2)] else []) by rw [Tm.taken_snoc (L := L) hlt, List.append_assoc])
      have hl1 : (ps ++ Tm.taken L (rs.take k)).length ≤ 48 := by have := Tm.taken_le L (rs.take k); rw [List.length_append]; rw [List.length_take] at this; omega
      have hl2 : (Tm.stays L (rs.take k)).length ≤ 8 := by have := Tm.stays_le L (rs.take k); rw [List.length_take] at this; omega
      have hov : Hid (Tm.takenB L ((rs[k]?.getD ([], [])).1, (rs[k]?.getD ([], [])).2) = decide (0 < (Tm.overVal (rs[k]?.getD ([], [])).1 L).length)) := rfl
      generalize (rs[k]?.getD ([], [])).1 = P at *
      generalize (rs[k]?.getD ([], [])).2 = Q at *
      generalize ps ++ Tm.taken L (rs.take k) = pt at *
      generalize Tm.stays L (rs.take k) = sk at *
      generalize Tm.takenB L (P, Q) = tb at *
      obtain ⟨W2, hW2⟩ : ∃ W2, wr.alloc (.cells #[.slice aP P.length cP, .slice aQ Q.length cQ] 54) = W2 := ⟨_, rfl⟩
      have hBa : Below wr.heap.size wr W2 := by rw [← hW2]; exact (Below.refl _ _).alloc (Nat.le_refl _) _
      have by2 : Box2 W2 wr.heap.size 54 (.slice aP P.length cP) (.slice aQ Q.length cQ) := by rw [← hW2]; exact Box2.new wr _ _ _
      have HW2 := hid hW2
      have I2 := hid (hI.out.below hbw hBa)
      have y0 := by2.cell0
      have y1 := I2.out.bx.cell0
      have y0a := y0
      have y1a := y1
      rw [← hW2] at y0a y1a
      have hC := hid (over_any P L aP aL cP cL W2 (g3.below hBa).ints I2.out.iL.ints ⟨g5, g6, rulesL_nil g3.ints (Tm.err_pos eP)⟩ ⟨c1, c2, rulesL_nil hI.out.iL.ints (Tm.err_pos eL)⟩)
      generalize Tm.overVal P L = ov at *
      clear hW2 hI
      go_wp2_with fail
      rw [HW2.out]
      go_wp2_with fail
      refine hC.out.mono ?_
      rintro e w3 ⟨v3, rfl, hN3, b3⟩
      obtain ⟨x3, d3, rfl, _⟩ := New.ints hN3
      have I3 := hid (I2.out.below hbw b3)
      have by3 := by2.below b3 by2.lt
      have t0 := by3.cell0
      have t1 := by3.cell1
      have iP := hid ((g3.below hBa).below b3)
      have iQ := hid ((g4.below hBa).below b3)
      have hov0 : Hid (ov.length = ov.length) := rfl
      clear hC hN3 I2 y0 y1 y0a y1a g1 g2 g3 g4
      have hnw3 : w.heap.size + 1 ≤ w3.heap.size := I3.out.bx.lt
      have hwb3 : b ≤ w3.heap.size := by omega
      by_cases htk : 0 < ov.length
      · have htk' : (0 : Int) < (ov.length : Int) := by omega
        have htb : Hid (tb = true) := by show tb = true; rw [hov.out]; exact decide_eq_true htk
        rw [htb.out, if_pos rfl] at hs1 hs2
        have I4 := hid (I3.out.below hbw ((Below.refl w3.heap.size w3).alloc (Nat.le_refl _) (.cells #[.slice aP P.length cP, .slice aQ Q.length cQ] 40)))
        have hA := (Below.refl w3.heap.size w3).alloc (Nat.le_refl _) (.cells #[.slice aP P.length cP, .slice aQ Q.length cQ] 40)
        have blk := World.alloc_heap_new w3 (.cells #[.slice aP P.length cP, .slice aQ Q.length cQ] 40)
        have HB0 := hid ((cell_at blk 0).trans rfl : (w3.alloc (.cells #[.slice aP P.length cP, .slice aQ Q.length cQ] 40)).cell? ⟨w3.heap.size, 0, none⟩ = some (.slice aP P.length cP))
        have HB1 := hid ((cell_at blk 1).trans rfl : (w3.alloc (.cells #[.slice aP P.length cP, .slice aQ Q.length cQ] 40)).cell? ⟨w3.heap.size, 1, none⟩ = some (.slice aQ Q.length cQ))
        have iP4 := hid (iP.out.below hA)
        have iQ4 := hid (iQ.out.below hA)
        clear htk blk hA
        go_wp2_with (at_builtin; go_loud (refine wp_app_p _ rfl _ _ rfl b b (Nat.le_refl _) _ pt rfl I4.out.ne w3.heap.size aP aQ P Q cP cQ rfl HB0.out HB1.out iP4.out iQ4.out g5 g6 g7 g8 (by omega) (by simp; omega) ?_); intro g5' c5' w5 hN5 hg5 hB5)
        have I5 := hid (I4.out.pair hg5 hB5 hN5)
        clear hN5 hg5 hB5 I4 I3
        go_roundw
        case rel => exact ⟨k + 1, by omega, by go_num, by rw [hs1.out, hs2.out, List.append_nil]; simpa [Hid] using I5⟩
        case measure => simp [intOf]; omega
      · have htk' : ¬ (0 : Int) < (ov.length : Int) := by omega
        have htb : Hid (tb = false) := by show tb = false; rw [hov.out]; exact decide_eq_false htk
        rw [htb.out, if_neg (by simp)] at hs1 hs2
        have I4 := hid (I3.out.below hbw ((Below.refl w3.heap.size w3).alloc (Nat.le_refl _) (.cells #[.slice aP P.length cP, .slice aQ Q.length cQ] 54)))
        have hA := (Below.refl w3.heap.size w3).alloc (Nat.le_refl _) (.cells #[.slice aP P.length cP, .slice aQ Q.length cQ] 54)
        have blk := World.alloc_heap_new w3 (.cells #[.slice aP P.length cP, .slice aQ Q.length cQ] 54)
        have HB0 := hid ((cell_at blk 0).trans rfl : (w3.alloc (.cells #[.slice aP P.length cP, .slice aQ Q.length cQ] 54)).cell? ⟨w3.heap.size, 0, none⟩ = some (.slice aP P.length cP))
        have HB1 := hid ((cell_at blk 1).trans rfl : (w3.alloc (.cells #[.slice aP P.length cP, .slice aQ Q.length cQ] 54)).cell? ⟨w3.heap.size, 1, none⟩ = some (.slice aQ Q.length cQ))
        have iP4 := hid (iP.out.below hA)
        have iQ4 := hid (iQ.out.below hA)
        clear htk blk hA
        go_wp2_with (at_builtin; go_loud (refine wp_app_r _ rfl _ _ rfl (w.heap.size + 1) b (by omega) _ sk rfl I4.out.ns w3.heap.size aP aQ P Q cP cQ rfl HB0.out HB1.out iP4.out iQ4.out g5 g6 g7 g8 (by omega) (by simp; omega) ?_); intro g5' c5' w5 hN5 hg5 hB5)
        have I5 := hid (I4.out.rule hbw hll.out hg5 hB5 hN5)
        clear hN5 hg5 hB5 I4 I3
        go_roundw
        case rel => exact ⟨k + 1, by omega, by go_num, by rw [hs1.out, hs2.out, List.append_nil]; simpa [Hid] using I5⟩
        case measure => simp [intOf]; omega
    · obtain rfl : k = rs.length := by omega
      rw [List.take_length] at hI
      have hS : Hid (∀ er rs' ps', ((8 < (Tm.stays L rs).length + 1 ∧ er = 2 ∧ rs' = [] ∧ ps' = []) ∨
  ((Tm.stays L rs).length + 1 ≤ 8 ∧ ∃ e q, Tm.LastSays (Tm.stays L rs ++ [(L, R)]) (Tm.ways (Tm.stays L rs).length) e q ∧
    ((e ≠ 0 ∧ er = e ∧ rs' = [] ∧ ps' = []) ∨ (e = 0 ∧ 40 < (ps ++ Tm.taken L rs ++ q).length ∧ er = 2 ∧ rs' = [] ∧ ps' = []) ∨ (e = 0 ∧ (ps ++ Tm.taken L rs ++ q).length ≤ 40 ∧ er = 0 ∧ rs' = Tm.stays L rs ++ [(L, R)] ∧ ps' = ps ++ Tm.taken L rs ++ q)))) → Tm.WithSays rs ps L R er rs' ps') := fun er rs' ps' h => h
      have hl1 : (ps ++ Tm.taken L rs).length ≤ 48 := by have := Tm.taken_le L rs; rw [List.length_append]; omega
      have hl2 : (Tm.stays L rs).length ≤ 8 := by have := Tm.stays_le L rs; omega
      rw [List.take_length]
      generalize ps ++ Tm.taken L rs = pt at *
      generalize Tm.stays L rs = sk at *
      have y0 := hI.out.bx.cell0
      have y1 := hI.out.bx.cell1
      have hA := (Below.refl wr.heap.size wr).alloc (Nat.le_refl _) (.cells #[.slice aL L.length cL, .slice aR R.length cR] 54)
      have I4 := hid (hI.out.below hbw hA)
      have blk := World.alloc_heap_new wr (.cells #[.slice aL L.length cL, .slice aR R.length cR] 54)
      have HB0 := hid ((cell_at blk 0).trans rfl : (wr.alloc (.cells #[.slice aL L.length cL, .slice aR R.length cR] 54)).cell? ⟨wr.heap.size, 0, none⟩ = some (.slice aL L.length cL))
      have HB1 := hid ((cell_at blk 1).trans rfl : (wr.alloc (.cells #[.slice aL L.length cL, .slice aR R.length cR] 54)).cell? ⟨wr.heap.size, 1, none⟩ = some (.slice aR R.length cR))
      clear blk hA hI
      by_cases h9 : 8 < sk.length + 1
      · have h9' : (8 : Int) < (sk.length : Int) + 1 := by omega
        go_wp2_with (at_builtin; go_loud (refine wp_app_r _ rfl _ _ rfl (w.heap.size + 1) b (by omega) _ sk rfl I4.out.ns wr.heap.size aL aR L R cL cR rfl HB0.out HB1.out I4.out.iL I4.out.iR c1 c2 c3 c4 (by omega) (by simp; omega) ?_); intro g5' c5' w5 hN5 hg5 hB5)
        have I5 := hid (I4.out.rule hbw hll.out hg5 hB5 hN5)
        go_ret3
        exact ⟨2, [], [], _, _, hS.out _ _ _ (.inl ⟨h9, rfl, rfl, rfl⟩), rfl, NewX.nil _ _ _ _, NewX.nil _ _ _ _, I5.out.kp⟩
      · have h9' : ¬ (8 : Int) < (sk.length : Int) + 1 := by omega
        go_wp2_with (first
          | (at_builtin; go_loud (refine wp_app_r _ rfl _ _ rfl (w.heap.size + 1) b (by omega) _ sk rfl I4.out.ns wr.heap.size aL aR L R cL cR rfl HB0.out HB1.out I4.out.iL I4.out.iR c1 c2 c3 c4 (by omega) (by simp; omega) ?_); intro g5 c5 w5 hN5 hg5 hB5; have I5 := hid (I4.out.rule hbw hll.out hg5 hB5 hN5); clear hN5 hg5 hB5)
          | (go_at_call 62; fail))
        have hb5 : b ≤ w5.heap.size := Nat.le_trans hbw I5.out.kp.size
        obtain ⟨a6, c6, e6, hR6, _⟩ := I5.out.ns.at
        have hC := ofLast_any b (sk ++ [(L, R)]) a6 c6 w5 hb5 hR6 (by simp) (by simp; omega)
        rw [← e6, show (sk ++ [(L, R)]).length - 1 = sk.length by simp] at hC
        have HC := hid hC
        clear hC e6 hR6
        refine HC.out.mono ?_
        rintro e w6 ⟨er, q, v6, hs6, rfl, hN6, b6⟩
        have I6 := hid (I5.out.below hbw b6)
        obtain ⟨a7, c7, rfl⟩ := hN6.slice
        have HN6 := hid hN6
        clear HC hN6 I5 I4
        by_cases he : er = 0
        · subst he
          have hql : q.length ≤ 1000 := by
            rcases hs6 with ⟨_, h⟩ | ⟨h, _⟩
            · have h1 := h.len; have h2 := Tm.ways_len sk.length; omega
            · exact absurd rfl h
          have Hs6 := hid hs6
          have hb6 : b ≤ w6.heap.size := Nat.le_trans hbw I6.out.kp.size
          clear hs6
          by_cases h41 : 40 < (pt ++ q).length
          · have h41' : (40 : Int) < (pt.length : Int) + (q.length : Int) := by rw [List.length_append] at h41; omega
            have Hs := hid (hS.out 2 [] [] (.inr ⟨by omega, 0, q, Hs6.out, .inr (.inl ⟨rfl, h41, rfl, rfl, rfl⟩)⟩))
            clear h41 hS
            go_wp2_with (at_builtin; go_loud (refine wp_apps_p _ rfl _ _ rfl b b (Nat.le_refl _) _ pt rfl I6.out.ne _ q rfl w5.heap.size HN6.out (by omega) hb6 ?_); intro v8 w8 hN8 hg8 hB8; have I8 := hid (I6.out.pair hg8 hB8 hN8); obtain ⟨a8, c8, e8⟩ := hN8.slice; rw [List.length_append] at e8; subst e8; clear hN8 hg8 hB8)
            go_ret3
            exact ⟨2, [], [], _, _, Hs.out, rfl, NewX.nil _ _ _ _, NewX.nil _ _ _ _, I8.out.kp⟩
          · have h41' : ¬ (40 : Int) < (pt.length : Int) + (q.length : Int) := by rw [List.length_append] at h41; omega
            have Hs := hid (hS.out 0 (sk ++ [(L, R)]) (pt ++ q) (.inr ⟨by omega, 0, q, Hs6.out, .inr (.inr ⟨rfl, by omega, rfl, rfl, rfl⟩)⟩))
            clear h41 hS
            go_wp2_with (at_builtin; go_loud (refine wp_apps_p _ rfl _ _ rfl b b (Nat.le_refl _) _ pt rfl I6.out.ne _ q rfl w5.heap.size HN6.out (by omega) hb6 ?_); intro v8 w8 hN8 hg8 hB8; have I8 := hid (I6.out.pair hg8 hB8 hN8); obtain ⟨a8, c8, e8⟩ := hN8.slice; rw [List.length_append] at e8; subst e8; clear hN8 hg8 hB8)
            go_ret3
            exact ⟨0, _, _, _, _, Hs.out, rfl, I8.out.ns.mono (by omega), I8.out.ne, I8.out.kp⟩
        · have hne : (er != 0) = true := by simpa using he
          have Hs := hid (hS.out er [] [] (.inr ⟨by omega, er, q, hs6, .inl ⟨he, rfl, rfl, rfl⟩⟩))
          clear he hS hs6
          go_wp2
          go_ret3
          exact ⟨er, [], [], _, _, Hs.out, rfl, NewX.nil _ _ _ _, NewX.nil _ _ _ _, I6.out.kp⟩
end Go.Proofs.YtglohanbpjaieaaGreat
namespace Go.Proofs.YtglohanbpjaieaaGreat
open Go.Proofs Go.RowKit Go.Shelf Go.Maps
section
variable {L1 R1 L2 R2:List Int} {pass:Nat→Bool}
theorem Tm.Laps.at {n:Nat} {l:PairL} (h:Tm.Laps L1 R1 L2 R2 pass n l):∀ m,m < n→∃ l',Tm.Laps L1 R1 L2 R2 pass m l'∧(pass m = true∨(∃ val,Tm.MeetSays [(Tm.part L1 m,L2)] 0 false val)∨(∃ val,Tm.MeetSays [(Tm.part L1 m,L2)] 0 true val∧Tm.prtErr val L1 R1 (m:Int) R2 = 0)):=by
 induction h with
 | zero=>intro m hm;omega
 | @pass k l h hp ih =>
  intro m hm
  by_cases e:m = k
  ·subst e;exact ⟨l,h,.inl hp⟩
  ·exact ih m (by omega)
 | @no k l val h hp hs ih =>
  intro m hm
  by_cases e:m = k
  ·subst e;exact ⟨l,h,.inr (.inl ⟨val,hs⟩)⟩
  ·exact ih m (by omega)
 | @yes k l val h hp hs he ih =>
  intro m hm
  by_cases e:m = k
  ·subst e;exact ⟨l,h,.inr (.inr ⟨val,hs,he⟩)⟩
  ·exact ih m (by omega)
theorem Tm.Laps.one {n:Nat} {l l':PairL} (h:Tm.Laps L1 R1 L2 R2 pass n l) (h':Tm.Laps L1 R1 L2 R2 pass n l'):l = l':=by
 induction h generalizing l' with
 | zero=>cases h';rfl
 | pass h hp ih =>
  cases h' with
  | pass h2 _=>exact ih h2
  | no _ hq _=>rw [hp] at hq;cases hq
  | yes _ hq _ _=>rw [hp] at hq;cases hq
 | no h hp hs ih =>
  cases h' with
  | pass _ hq=>rw [hp] at hq;cases hq
  | no h2 _ _=>exact ih h2
  | yes _ _ hs2 _=>have:=(hs.one hs2).2.1;cases this
 | yes h hp hs he ih =>
  cases h' with
  | pass _ hq=>rw [hp] at hq;cases hq
  | no _ _ hs2=>have:=(hs.one hs2).2.1;cases this
  | yes h2 _ hs2 _ =>
   obtain ⟨_,_,rfl⟩:=hs.one hs2
   rw [ih h2]
theorem Tm.LapsSays.right {l ps:PairL} {e:Int} (h:Tm.Laps L1 R1 L2 R2 pass L1.length l) (h':Tm.LapsSays L1 R1 L2 R2 pass e ps):e = 0∧ps = l:=by
 rcases h' with ⟨rfl,h2⟩ | ⟨⟨h0,m,l',hm,hl',hp,hs⟩,rfl⟩
 ·exact ⟨rfl,h2.one h⟩
 ·obtain ⟨_,_,q | ⟨val,q⟩ | ⟨val,q,q'⟩⟩:=h.at m hm
  ·rw [hp] at q;cases q
  ·rcases hs with ⟨is,v,hs⟩ | ⟨v,hs,_⟩
   ·exact absurd (q.one hs).1.symm h0
   ·have:=(q.one hs).2.1;cases this
  ·rcases hs with ⟨is,v,hs⟩ | ⟨v,hs,he⟩
   ·exact absurd (q.one hs).1.symm h0
   ·obtain ⟨_,_,rfl⟩:=q.one hs
    rw [q'] at he
    exact absurd he.symm h0
end
theorem Tm.OfSays.right {rs:RuleL} {a b:Nat} {l ps:PairL} {e:Int} (hr:Tm.rulesErr rs = 0) (ha:a < rs.length) (hb:b < rs.length) (h:Tm.Laps (rs[a]?.getD ([],[])).1 (rs[a]?.getD ([],[])).2 (Tm.others (rs[b]?.getD ([],[])).1) (Tm.others (rs[b]?.getD ([],[])).2) (Tm.passB (rs[a]?.getD ([],[])).1 (a:Int) (b:Int)) (rs[a]?.getD ([],[])).1.length l) (h':Tm.OfSays rs (a:Int) (b:Int) e ps):e = 0∧ps = l:=by
 rcases h' with ⟨h1,_⟩ | ⟨_,h2,_⟩ | ⟨_,a',b',_,_,ea,eb,h3⟩
 ·exact absurd hr h1
 ·exact absurd ⟨by omega,by omega,by omega,by omega⟩ h2
 ·obtain rfl:a = a':=by omega
  obtain rfl:b = b':=by omega
  exact h3.right h
def Tm.clash:List Int→List Int→Bool
 | s :: x,t :: y=>if s < 0∨t < 0 then false else if s = t then Tm.clash x y else true
 | _,_=>false
theorem Tm.clash_no (θ:Wb.Sb):∀ (x y:List Int),Tm.clash x y = true→Wb.App θ x≠Wb.App θ y:=by
 intro x
 induction x with
 | nil=>intro y h;simp [Tm.clash] at h
 | cons s x ih =>
  intro y h
  cases y with
  | nil=>simp [Tm.clash] at h
  | cons t y =>
   rw [Tm.clash] at h
   by_cases h1:s < 0∨t < 0
   ·rw [if_pos h1] at h;cases h
   ·rw [if_neg h1] at h
    rw [Wb.App_cons,Wb.App_cons,if_neg (by omega),if_neg (by omega),List.singleton_append,List.singleton_append]
    by_cases e:s = t
    ·rw [if_pos e] at h
     intro hh
     exact ih y h (List.cons.inj hh).2
    ·intro hh
     exact e (List.cons.inj hh).1
theorem Tm.no_of {x y:List Int} (h:Tm.firstPair [(x,y)] = 0) (hc:Tm.clash x y = true):Tm.MeetSays [(x,y)] 0 false [] :=
 .inr (.inl ⟨h,fun θ _ H=>Tm.clash_no θ x y hc (H 0 (by simp)),rfl,rfl,rfl⟩)
def Tm.leastB (vs:List (List Int)):Bool:=(List.range 8).all fun i:Nat=>(vs[i]?.getD []).length != 1 || decide (0≤(vs[i]?.getD []).headD 0) || decide (-1 - (i:Int)≤(vs[i]?.getD []).headD 0)
theorem Tm.mguOf {ps:PairL} {vs:List (List Int)} (h1:Tm.subErr vs = 0) (hs:Wb.Same ps ps.length (Tm.ofL vs)) (hl:Tm.leastB vs = true) (hm:∀ θ,Wb.TermSb θ→Wb.Same ps ps.length θ→∀ i:Nat,i < 8→θ (-1 - (i:Int)) = Wb.App θ (vs[i]?.getD [])):Wb.Mgu ps (Tm.ofL vs):=by
 have h8:=(Tm.subErr_ok h1).1
 have hi:∀ v:Int,-8≤v→v < 0→∃ i:Nat,i < 8∧v = -1 - (i:Int):=fun v a b=>⟨(-1 - v).toNat,by omega,by omega⟩
 refine ⟨Tm.ofL_term h1,fun v a b s hs'=>?_,hs,fun θ hθ H v a b=>?_,fun v u a b e hu=>?_⟩
 ·obtain ⟨i,hi8,rfl⟩:=hi v a b
  rw [Tm.ofL_at vs hi8] at hs'
  have hk:=Tm.err_all (Tm.firstErr_all (Tm.subErr_ok h1).2 i (by omega))
  rw [List.all_eq_true] at hk
  exact ⟨Tm.known_ge (hk s hs'),Tm.known_lt (hk s hs')⟩
 ·obtain ⟨i,hi8,rfl⟩:=hi v a b
  rw [Tm.ofL_at vs hi8]
  exact hm θ hθ H i hi8
 ·obtain ⟨i,hi8,rfl⟩:=hi v a b
  rw [Tm.ofL_at vs hi8] at e
  unfold Tm.leastB at hl
  rw [List.all_eq_true] at hl
  have:=hl i (List.mem_range.2 hi8)
  rw [e] at this
  simp at this
  omega
theorem Tm.yes_of {ps:PairL} {vs:List (List Int)} (h0:Tm.firstPair ps = 0) (h1:Tm.subErr vs = 0) (M:Wb.Mgu ps (Tm.ofL vs)):Tm.MeetSays ps 0 true vs:=by
 have h8:=(Tm.subErr_ok h1).1
 refine .inr (.inr (.inl ⟨h0,_,M,fun i hi=>?_,rfl,rfl,(Tm.sbL_ofL h8).symm⟩))
 rw [Tm.ofL_at _ hi]
 exact Tm.err_len (Tm.firstErr_all (Tm.subErr_ok h1).2 i (by omega))
theorem Tm.Laps.clash {L1 R1 L2 R2:List Int} {pass:Nat→Bool} {m:Nat} {l:PairL} (h:Tm.Laps L1 R1 L2 R2 pass m l) (hc:pass m = true∨(pass m = false∧Tm.firstPair [(Tm.part L1 m,L2)] = 0∧Tm.clash (Tm.part L1 m) L2 = true)):Tm.Laps L1 R1 L2 R2 pass (m+1) l:=by
 rcases hc with hp | ⟨hp,h1,h2⟩
 ·exact .pass h hp
 ·exact .no h hp (Tm.no_of h1 h2)
def Tm.allClash (L1 L2:List Int) (pass:Nat→Bool) (from' upto:Nat):Bool:=(List.range (upto - from')).all fun k=>pass (from'+k) || (decide (Tm.firstPair [(Tm.part L1 (from'+k),L2)] = 0) && Tm.clash (Tm.part L1 (from'+k)) L2)
theorem Tm.Laps.run {L1 R1 L2 R2:List Int} {pass:Nat→Bool} {m:Nat} {l:PairL} (h:Tm.Laps L1 R1 L2 R2 pass m l):∀ n,Tm.allClash L1 L2 pass m (m+n) = true→Tm.Laps L1 R1 L2 R2 pass (m+n) l:=by
 intro n
 induction n with
 | zero=>intro _;exact h
 | succ n ih =>
  intro hc
  unfold Tm.allClash at hc ih
  rw [Nat.add_sub_cancel_left] at hc ih
  rw [List.range_succ,List.all_append,Bool.and_eq_true] at hc
  refine (ih hc.1).clash ?_
  have h2:=hc.2
  simp at h2
  cases hp:pass (m+n) with
  | true=>exact .inl rfl
  | false =>
   rw [hp] at h2
   simp at h2
   exact .inr ⟨rfl,h2.1,h2.2⟩
end Go.Proofs.YtglohanbpjaieaaGreat
