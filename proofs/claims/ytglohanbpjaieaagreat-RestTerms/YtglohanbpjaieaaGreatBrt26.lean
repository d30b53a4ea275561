/-
  Parts of the proof: Met1, Met2, Met3, Met4, Met5.
-/
import Derived.Test.YtglohanbpjaieaaGreatBrt15
import Derived.Deep.QuietTactic
import Derived.BigQuiet
import Derived.LaidEqlPtr
import Derived.Deep.RegionHeld3
import Derived.Deep.DrawnRows
namespace Go.Proofs.YtglohanbpjaieaaGreat
open Go.Proofs Go.RowKit Go.Shelf Go.Maps
namespace Mt
open Wb (App TermSb Same Sb App_cons App_flatten)
structure Gph (n:Nat) (S:Nat→Int) (K:Nat→List Nat) (Z:Nat→List Int):Prop where
 known:∀ k,k < n→-8≤S k∧S k < 6
 room:∀ k,k < n→(K k).length = Tm.room (S k)
 kids:∀ k,k < n→∀ i∈K k,i < n
 sign:∀ k,k < n→Z k = S k :: ((K k).map Z).flatten
 vars:∀ i j,i < n→j < n→S i < 0→S i = S j→i = j
theorem mem_len {l:List (List Int)} {x:List Int} (h:x∈l):x.length≤l.flatten.length:=by
 induction l with
 | nil=>simp at h
 | cons y l ih =>
  rw [List.flatten_cons,List.length_append]
  rcases List.mem_cons.1 h with e | h
  ·subst e;omega
  ·have:=ih h;omega
theorem Gph.kid_len {n:Nat} {S:Nat→Int} {K:Nat→List Nat} {Z:Nat→List Int} (G:Gph n S K Z) {k i:Nat} (hk:k < n) (hi:i∈K k):(Z i).length < (Z k).length:=by
 rw [G.sign k hk,List.length_cons]
 have:=mem_len (List.mem_map_of_mem (f:=Z) hi)
 omega
theorem run_kids {l:List (List Int)} (h:∀ x∈l,Tm.run x 1 = x.length):Tm.run l.flatten l.length = l.flatten.length :=
 Tm.run_flatten l fun j hj=>by
  rw [List.getElem?_eq_getElem hj]
  exact h _ (List.getElem_mem hj)
theorem Gph.run {n:Nat} {S:Nat→Int} {K:Nat→List Nat} {Z:Nat→List Int} (G:Gph n S K Z):∀ (m k:Nat),(Z k).length≤m→k < n→Tm.run (Z k) 1 = (Z k).length:=by
 intro m
 induction m with
 | zero=>intro k h hk;rw [G.sign k hk,List.length_cons] at h;omega
 | succ m ih =>
  intro k h hk
  have e:=G.sign k hk
  have hr:Tm.run ((K k).map Z).flatten ((K k).map Z).length = ((K k).map Z).flatten.length:=run_kids fun x hx=>by
   obtain ⟨i,hi,rfl⟩:=List.mem_map.1 hx
   exact ih i (by have:=G.kid_len hk hi;omega) (G.kids k hk i hi)
  rw [List.length_map,G.room k hk] at hr
  rw [e,show (1:Nat) = 0+1 from rfl,Tm.run_cons,Nat.zero_add,hr,List.length_cons]
  omega
theorem Gph.app {n:Nat} {S:Nat→Int} {K:Nat→List Nat} {Z:Nat→List Int} (G:Gph n S K Z) (θ:Sb) {k:Nat} (hk:k < n) (hs:0≤S k):App θ (Z k) = S k :: ((K k).map fun i=>App θ (Z i)).flatten:=by
 rw [G.sign k hk,App_cons,if_neg (by omega),App_flatten,List.map_map]
 rfl
theorem Gph.var {n:Nat} {S:Nat→Int} {K:Nat→List Nat} {Z:Nat→List Int} (G:Gph n S K Z) {k:Nat} (hk:k < n) (hs:S k < 0):K k = []∧Z k = [S k]:=by
 have h:=G.room k hk
 rw [Wb.room_var hs] at h
 have e:=List.eq_nil_of_length_eq_zero h
 exact ⟨e,by rw [G.sign k hk,e];rfl⟩
theorem Gph.eq {n:Nat} {S:Nat→Int} {K:Nat→List Nat} {Z:Nat→List Int} (G:Gph n S K Z) {θ:Sb} (hθ:TermSb θ) {p q:Nat} (hp:p < n) (hq:q < n) (sp:0≤S p) (sq:0≤S q) (h:App θ (Z p) = App θ (Z q)) :
 S p = S q∧∀ i,i < Tm.room (S p)→App θ (Z ((K p)[i]?.getD 0)) = App θ (Z ((K q)[i]?.getD 0)):=by
 rw [G.app θ hp sp,G.app θ hq sq] at h
 obtain ⟨e,h2⟩:=List.cons.inj h
 have hrun:∀ r,r < n→∀ x∈(K r).map (fun k=>App θ (Z k)),Tm.run x 1 = x.length:=fun r hr x hx=>by
  obtain ⟨i,hi,rfl⟩:=List.mem_map.1 hx
  exact Wb.App_run hθ _ 1 (G.run _ i (Nat.le_refl _) (G.kids r hr i hi))
 have h3:=Wb.flatten_inj _ _ (hrun p hp) (hrun q hq) (by rw [List.length_map,List.length_map,G.room p hp,G.room q hq,e]) h2
 refine ⟨e,fun i hi=>?_⟩
 have h4:=congrArg (fun l:List (List Int)=>l[i]?.getD []) h3
 simp only [List.getElem?_map] at h4
 have l1:i < (K p).length:=by rw [G.room p hp];exact hi
 have l2:i < (K q).length:=by rw [G.room q hq,← e];exact hi
 rw [List.getElem?_eq_getElem l1,List.getElem?_eq_getElem l2] at h4 ⊢
 exact h4
def Resp (n:Nat) (Z:Nat→List Int) (C:Nat→Nat) (θ:Sb):Prop:=∀ i j,i < n→j < n→C i = C j→App θ (Z i) = App θ (Z j)
def tied (C:Nat→Nat) (a b:Nat):Nat→Nat:=fun k=>if C k = C a then C b else C k
theorem tied_same (C:Nat→Nat) (a b:Nat):tied C a b a = tied C a b b:=by
 unfold tied
 rw [if_pos rfl]
 by_cases e:C b = C a
 ·rw [if_pos e]
 ·rw [if_neg e]
theorem tied_mono {C:Nat→Nat} {i j:Nat} (a b:Nat) (h:C i = C j):tied C a b i = tied C a b j:=by unfold tied;rw [h]
theorem Resp.tie {n:Nat} {Z:Nat→List Int} {C:Nat→Nat} {θ:Sb} (R:Resp n Z C θ) {a b:Nat} (ha:a < n) (hb:b < n) (h:App θ (Z a) = App θ (Z b)):Resp n Z (tied C a b) θ:=fun i j hi hj e=>by
 unfold tied at e
 by_cases h1:C i = C a
 ·rw [if_pos h1] at e
  by_cases h2:C j = C a
  ·rw [R i a hi ha h1,R j a hj ha h2]
  ·rw [if_neg h2] at e
   rw [R i a hi ha h1,h,R b j hb hj e]
 ·rw [if_neg h1] at e
  by_cases h2:C j = C a
  ·rw [if_pos h2] at e
   rw [R i b hi hb e,← h,R j a hj ha h2]
  ·rw [if_neg h2] at e
   exact R i j hi hj e
def cls (n:Nat) (C:Nat→Nat):Nat:=((List.range n).filter fun c=>(List.range n).any fun k=>C k == c).length
theorem used_iff {n:Nat} {C:Nat→Nat} {c:Nat}:((List.range n).any fun k=>C k == c) = true ↔ ∃ k,k < n∧C k = c:=by simp
theorem cls_tie {n:Nat} {C:Nat→Nat} {a b:Nat} (hC:∀ k,k < n→C k < n) (ha:a < n) (hb:b < n) (hne:C a≠C b):cls n (tied C a b) < cls n C:=by
 refine Wb.filter_lt _ _ _ (fun c _ h=>?_) (C a) (List.mem_range.2 (hC a ha)) ?_ (used_iff.2 ⟨a,ha,rfl⟩)
 ·obtain ⟨k,hk,e⟩:=used_iff.1 h
  unfold tied at e
  by_cases h1:C k = C a
  ·rw [if_pos h1] at e;exact used_iff.2 ⟨b,hb,e⟩
  ·rw [if_neg h1] at e;exact used_iff.2 ⟨k,hk,e⟩
 ·rw [Bool.eq_false_iff]
  intro h
  obtain ⟨k,hk,e⟩:=used_iff.1 h
  unfold tied at e
  by_cases h1:C k = C a
  ·rw [if_pos h1] at e;exact hne e.symm
  ·rw [if_neg h1] at e;exact h1 e
theorem tied_lt {n:Nat} {C:Nat→Nat} {a b:Nat} (hC:∀ k,k < n→C k < n) (hb:b < n):∀ k,k < n→tied C a b k < n:=fun k hk=>by
 unfold tied
 split
 ·exact hC b hb
 ·exact hC k hk
def Shut (S:Nat→Int) (K:Nat→List Nat) (C:Nat→Nat) (a b:Nat):Prop:=C a = C b→0≤S a→0≤S b→S a = S b∧∀ i,i < Tm.room (S a)→C ((K a)[i]?.getD 0) = C ((K b)[i]?.getD 0)
def sym (n:Nat) (S:Nat→Int) (C:Nat→Nat) (c:Nat):Option Nat:=(List.range n).find? fun k=>decide (C k = c) && decide (0≤S k)
theorem sym_some {n:Nat} {S:Nat→Int} {C:Nat→Nat} {c k:Nat} (h:sym n S C c = some k):k < n∧C k = c∧0≤S k:=by
 have h1:=List.find?_some h
 have h2:=List.mem_of_find?_eq_some h
 simp only [Bool.and_eq_true,decide_eq_true_eq] at h1
 exact ⟨List.mem_range.1 h2,h1.1,h1.2⟩
theorem sym_none {n:Nat} {S:Nat→Int} {C:Nat→Nat} {c:Nat} (h:sym n S C c = none):∀ k,k < n→C k = c→S k < 0:=fun k hk e=>by
 have h1:=List.find?_eq_none.1 h k (List.mem_range.2 hk)
 simp only [Bool.and_eq_true,decide_eq_true_eq,not_and] at h1
 have:=h1 e
 omega
def rnd (n:Nat) (S:Nat→Int) (K:Nat→List Nat) (C:Nat→Nat):Nat→Nat→Bool
 | 0,_=>true
 | f+1,c=>match sym n S C c with
  | none=>false
  | some k=>(K k).any fun i=>rnd n S K C f (C i)
theorem rnd_none {n:Nat} {S:Nat→Int} {K:Nat→List Nat} {C:Nat→Nat} {f c:Nat} (h:sym n S C c = none):rnd n S K C (f+1) c = false:=by rw [rnd,h]
theorem rnd_some {n:Nat} {S:Nat→Int} {K:Nat→List Nat} {C:Nat→Nat} {f c k:Nat} (h:sym n S C c = some k):rnd n S K C (f+1) c = (K k).any fun i=>rnd n S K C f (C i):=by rw [rnd,h]
def bst (S:Nat→Int) (C:Nat→Nat) (c:Nat):Nat→Int
 | 0=>-9
 | m+1=>if C m = c∧bst S C c m < S m then S m else bst S C c m
theorem bst_ge {S:Nat→Int} {C:Nat→Nat} {c:Nat}:∀ (m k:Nat),k < m→C k = c→S k≤bst S C c m:=by
 intro m
 induction m with
 | zero=>intro k h;omega
 | succ m ih =>
  intro k hk e
  rw [bst]
  by_cases h:C m = c∧bst S C c m < S m
  ·rw [if_pos h]
   by_cases e2:k = m
   ·subst e2;exact Int.le_refl _
   ·have:=ih k (by omega) e;omega
  ·rw [if_neg h]
   by_cases e2:k = m
   ·subst e2
    have:¬ bst S C c k < S k:=fun h2=>h ⟨e,h2⟩
    omega
   ·exact ih k (by omega) e
theorem bst_is {S:Nat→Int} {C:Nat→Nat} {c:Nat}:∀ (m:Nat),bst S C c m = -9∨∃ k,k < m∧C k = c∧bst S C c m = S k:=by
 intro m
 induction m with
 | zero=>exact .inl rfl
 | succ m ih =>
  rw [bst]
  by_cases h:C m = c∧bst S C c m < S m
  ·rw [if_pos h];exact .inr ⟨m,by omega,h.1,rfl⟩
  ·rw [if_neg h]
   rcases ih with e | ⟨k,hk,h1,h2⟩
   ·exact .inl e
   ·exact .inr ⟨k,by omega,h1,h2⟩
theorem Gph.best {n:Nat} {S:Nat→Int} {K:Nat→List Nat} {Z:Nat→List Int} (G:Gph n S K Z) {C:Nat→Nat} {k:Nat} (hk:k < n):∃ j,j < n∧C j = C k∧bst S C (C k) n = S j:=by
 rcases bst_is (S:=S) (C:=C) (c:=C k) n with e | h
 ·have:=bst_ge (S:=S) (C:=C) n k hk rfl
  have:=(G.known k hk).1
  omega
 ·exact h
def bec (n:Nat) (S:Nat→Int) (K:Nat→List Nat) (C:Nat→Nat):Nat→Nat→List Int
 | 0,_=>[]
 | f+1,c=>match sym n S C c with
  | none=>[bst S C c n]
  | some k=>S k :: ((K k).map fun i=>bec n S K C f (C i)).flatten
theorem bec_none {n:Nat} {S:Nat→Int} {K:Nat→List Nat} {C:Nat→Nat} {f c:Nat} (h:sym n S C c = none):bec n S K C (f+1) c = [bst S C c n]:=by rw [bec,h]
theorem bec_some {n:Nat} {S:Nat→Int} {K:Nat→List Nat} {C:Nat→Nat} {f c k:Nat} (h:sym n S C c = some k):bec n S K C (f+1) c = S k :: ((K k).map fun i=>bec n S K C f (C i)).flatten:=by rw [bec,h]
theorem rnd_kid {n:Nat} {S:Nat→Int} {K:Nat→List Nat} {C:Nat→Nat} {f c k:Nat} (h:sym n S C c = some k) (hr:rnd n S K C (f+1) c = false):∀ i∈K k,rnd n S K C f (C i) = false:=fun i hi=>by
 rw [rnd_some h] at hr
 have:=List.any_eq_false.1 hr i hi
 simpa using this
theorem bec_more {n:Nat} {S:Nat→Int} {K:Nat→List Nat} {C:Nat→Nat}:∀ (f c:Nat),rnd n S K C f c = false→bec n S K C (f+1) c = bec n S K C f c:=by
 intro f
 induction f with
 | zero=>intro c h;simp [rnd] at h
 | succ f ih =>
  intro c h
  cases hs:sym n S C c with
  | none=>rw [bec_none hs,bec_none hs]
  | some k =>
   rw [bec_some hs,bec_some hs]
   congr 2
   refine List.map_congr_left fun i hi=>?_
   exact ih _ (rnd_kid hs h i hi)
theorem bec_run {n:Nat} {S:Nat→Int} {K:Nat→List Nat} {Z:Nat→List Int} (G:Gph n S K Z) {C:Nat→Nat}:∀ (f k:Nat),k < n→rnd n S K C f (C k) = false→Tm.run (bec n S K C f (C k)) 1 = (bec n S K C f (C k)).length:=by
 intro f
 induction f with
 | zero=>intro k _ h;simp [rnd] at h
 | succ f ih =>
  intro k hk h
  cases hs:sym n S C (C k) with
  | none =>
   rw [bec_none hs]
   obtain ⟨j,hj,e1,e2⟩:=G.best (C:=C) hk
   have:=sym_none hs j hj e1
   rw [show (1:Nat) = 0+1 from rfl,Tm.run_cons,Wb.room_var (by omega),Tm.run_zero]
   rfl
  | some q =>
   obtain ⟨hq,e1,e2⟩:=sym_some hs
   rw [bec_some hs]
   have hr:=run_kids (l:=(K q).map fun i=>bec n S K C f (C i)) fun x hx=>by
    obtain ⟨i,hi,rfl⟩:=List.mem_map.1 hx
    exact ih i (G.kids q hq i hi) (rnd_kid hs h i hi)
   rw [List.length_map,G.room q hq] at hr
   rw [show (1:Nat) = 0+1 from rfl,Tm.run_cons,Nat.zero_add,hr,List.length_cons]
   omega
theorem bec_vars {n:Nat} {S:Nat→Int} {K:Nat→List Nat} {Z:Nat→List Int} (G:Gph n S K Z) {C:Nat→Nat}:∀ (f k:Nat),k < n→∀ s∈bec n S K C f (C k),-8≤s∧s < 6:=by
 intro f
 induction f with
 | zero=>intro k _ s h;simp [bec] at h
 | succ f ih =>
  intro k hk s h
  cases hs:sym n S C (C k) with
  | none =>
   rw [bec_none hs] at h
   obtain ⟨j,hj,e1,e2⟩:=G.best (C:=C) hk
   simp only [List.mem_cons,List.not_mem_nil,or_false] at h
   rw [h,e2]
   exact G.known j hj
  | some q =>
   obtain ⟨hq,e1,e2⟩:=sym_some hs
   rw [bec_some hs] at h
   rcases List.mem_cons.1 h with e | h
   ·rw [e];exact G.known q hq
   ·obtain ⟨l,hl,hsl⟩:=List.mem_flatten.1 h
    obtain ⟨i,hi,rfl⟩:=List.mem_map.1 hl
    exact ih i (G.kids q hq i hi) s hsl
theorem bec_most {n:Nat} {S:Nat→Int} {K:Nat→List Nat} {Z:Nat→List Int} (G:Gph n S K Z) {C:Nat→Nat} {θ:Sb} (R:Resp n Z C θ):∀ (f k:Nat),k < n→rnd n S K C f (C k) = false→App θ (Z k) = App θ (bec n S K C f (C k)):=by
 intro f
 induction f with
 | zero=>intro k _ h;simp [rnd] at h
 | succ f ih =>
  intro k hk h
  cases hs:sym n S C (C k) with
  | none =>
   obtain ⟨j,hj,e1,e2⟩:=G.best (C:=C) hk
   have:=sym_none hs j hj e1
   rw [bec_none hs,e2,R k j hk hj e1.symm,(G.var hj this).2]
  | some q =>
   obtain ⟨hq,e1,e2⟩:=sym_some hs
   rw [bec_some hs,R k q hk hq e1.symm,G.app θ hq e2,App_cons,if_neg (by omega),App_flatten,List.map_map]
   show S q :: _ = S q :: _
   congr 2
   refine List.map_congr_left fun i hi=>?_
   exact ih i (G.kids q hq i hi) (rnd_kid hs h i hi)
theorem rnd_no {n:Nat} {S:Nat→Int} {K:Nat→List Nat} {Z:Nat→List Int} (G:Gph n S K Z) {C:Nat→Nat} (hC:∀ k,k < n→C k < n) {θ:Sb} (R:Resp n Z C θ) {k:Nat} (hk:k < n):rnd n S K C (n+1) (C k) = false:=by
 let ln:Nat→Nat:=fun c=>match (List.range n).find? fun j=>decide (C j = c) with
  | some j=>(App θ (Z j)).length
  | none=>0
 have hln:∀ j,j < n→ln (C j) = (App θ (Z j)).length:=fun j hj=>by
  show (match (List.range n).find? fun i=>decide (C i = C j) with
   | some j=>(App θ (Z j)).length
   | none=>0) = _
  cases hf:(List.range n).find? fun i=>decide (C i = C j) with
  | none=>exact absurd (List.find?_eq_none.1 hf j (List.mem_range.2 hj)) (by simp)
  | some i =>
   have h1:=List.find?_some hf
   have h2:=List.mem_range.1 (List.mem_of_find?_eq_some hf)
   simp only [decide_eq_true_eq] at h1
   show (App θ (Z i)).length = _
   rw [R i j h2 hj h1]
 let g:Nat→Nat:=fun c=>((List.range n).filter fun d=>((List.range n).any fun k=>C k == d) && decide (ln d < ln c)).length
 have hle:∀ f k,k < n→rnd n S K C f (C k) = true→f≤g (C k):=by
  intro f
  induction f with
  | zero=>intro k _ _;omega
  | succ f ih =>
   intro k hk h
   cases hs:sym n S C (C k) with
   | none=>rw [rnd_none hs] at h;cases h
   | some q =>
    obtain ⟨hq,e1,e2⟩:=sym_some hs
    rw [rnd_some hs] at h
    obtain ⟨i,hi,h⟩:=List.any_eq_true.1 h
    have hin:=G.kids q hq i hi
    have h1:=ih i hin h
    have hlt:ln (C i) < ln (C k):=by
     rw [hln i hin,hln k hk,R k q hk hq e1.symm,G.app θ hq e2,List.length_cons]
     have:=mem_len (List.mem_map_of_mem (f:=fun i=>App θ (Z i)) hi)
     omega
    have h2:g (C i) < g (C k):=by
     refine Wb.filter_lt _ _ _ (fun d _ h=>?_) (C i) (List.mem_range.2 (hC i hin)) ?_ ?_
     ·simp only [Bool.and_eq_true,decide_eq_true_eq] at h ⊢
      exact ⟨h.1,by omega⟩
     ·simp
     ·simp only [Bool.and_eq_true,decide_eq_true_eq]
      exact ⟨used_iff.2 ⟨i,hin,rfl⟩,hlt⟩
    omega
 rw [Bool.eq_false_iff]
 intro h
 have h1:=hle _ k hk h
 have h2:g (C k)≤n:=by
  refine Nat.le_trans (List.length_filter_le _ _) ?_
  simp
 omega
def sig (n:Nat) (S:Nat→Int) (K:Nat→List Nat) (C:Nat→Nat):Sb:=fun v=>match (List.range n).find? fun k=>decide (S k = v) with
 | some k=>bec n S K C (n+1) (C k)
 | none=>[v]
theorem sig_at {n:Nat} {S:Nat→Int} {K:Nat→List Nat} {Z:Nat→List Int} (G:Gph n S K Z) (C:Nat→Nat) {k:Nat} (hk:k < n) (hs:S k < 0):sig n S K C (S k) = bec n S K C (n+1) (C k):=by
 unfold sig
 cases hf:(List.range n).find? fun i=>decide (S i = S k) with
 | none=>exact absurd (List.find?_eq_none.1 hf k (List.mem_range.2 hk)) (by simp)
 | some i =>
  have h1:=List.find?_some hf
  have h2:=List.mem_range.1 (List.mem_of_find?_eq_some hf)
  simp only [decide_eq_true_eq] at h1
  have:=G.vars i k h2 hk (by omega) h1
  subst this
  rfl
theorem sig_no {n:Nat} {S:Nat→Int} {K:Nat→List Nat} {C:Nat→Nat} {v:Int} (h:∀ k,k < n→S k≠v):sig n S K C v = [v]:=by
 unfold sig
 rw [List.find?_eq_none.2 fun k hk=>by simpa using h k (List.mem_range.1 hk)]
theorem sig_or {n:Nat} {S:Nat→Int} {K:Nat→List Nat} {Z:Nat→List Int} (G:Gph n S K Z) (C:Nat→Nat) (v:Int) (hv:v < 0):(∃ k,k < n∧S k = v∧sig n S K C v = bec n S K C (n+1) (C k))∨((∀ k,k < n→S k≠v)∧sig n S K C v = [v]):=by
 by_cases h:∃ k,k < n∧S k = v
 ·obtain ⟨k,hk,rfl⟩:=h
  exact .inl ⟨k,hk,rfl,sig_at G C hk hv⟩
 ·have h':∀ k,k < n→S k≠v:=fun k hk e=>h ⟨k,hk,e⟩
  exact .inr ⟨h',sig_no h'⟩
theorem sig_app {n:Nat} {S:Nat→Int} {K:Nat→List Nat} {Z:Nat→List Int} (G:Gph n S K Z) {C:Nat→Nat} (hS:∀ a b,a < n→b < n→Shut S K C a b) (hr:∀ k,k < n→rnd n S K C (n+1) (C k) = false):∀ (m k:Nat),(Z k).length≤m→k < n→App (sig n S K C) (Z k) = bec n S K C (n+1) (C k):=by
 intro m
 induction m with
 | zero=>intro k h hk;rw [G.sign k hk,List.length_cons] at h;omega
 | succ m ih =>
  intro k h hk
  by_cases hs:S k < 0
  ·rw [(G.var hk hs).2,App_cons,if_pos hs,sig_at G C hk hs,Wb.App_nil,List.append_nil]
  ·cases hy:sym n S C (C k) with
   | none=>exact absurd (sym_none hy k hk rfl) hs
   | some q =>
    obtain ⟨hq,e1,e2⟩:=sym_some hy
    obtain ⟨e3,e4⟩:=hS k q hk hq e1.symm (by omega) e2
    rw [bec_some hy,G.app _ hk (by omega),e3]
    congr 2
    refine List.ext_getElem (by rw [List.length_map,List.length_map,G.room k hk,G.room q hq,e3]) fun i h1 h2=>?_
    rw [List.length_map] at h1 h2
    rw [List.getElem_map,List.getElem_map]
    have hi1:=List.getElem_mem h1
    have hi2:=List.getElem_mem h2
    rw [ih _ (by have:=G.kid_len hk hi1;omega) (G.kids k hk _ hi1)]
    have e5:=e4 i (by rw [← G.room k hk];exact h1)
    rw [List.getElem?_eq_getElem h1,List.getElem?_eq_getElem h2] at e5
    simp only [Option.getD_some] at e5
    rw [e5]
    exact bec_more n _ (rnd_kid hy (hr k hk) _ hi2)
theorem sig_mgu {n:Nat} {S:Nat→Int} {K:Nat→List Nat} {Z:Nat→List Int} (G:Gph n S K Z) {C:Nat→Nat} (hS:∀ a b,a < n→b < n→Shut S K C a b) (hr:∀ k,k < n→rnd n S K C (n+1) (C k) = false) {ps:PairL}
 (hsound:∀ θ,TermSb θ→Same ps ps.length θ→Resp n Z C θ) (htied:∀ j,j < ps.length→∃ a b,a < n∧b < n∧Z a = (ps[j]?.getD ([],[])).1∧Z b = (ps[j]?.getD ([],[])).2∧C a = C b):Wb.Mgu ps (sig n S K C):=by
 refine ⟨fun s hs=>?_,fun v h1 h2 s hs=>?_,fun j hj=>?_,fun θ hθ H v h1 h2=>?_,fun v u h1 h2 e hu=>?_⟩
 ·rcases sig_or (K:=K) G C s hs with ⟨k,hk,rfl,e⟩ | ⟨_,e⟩
  ·rw [e];exact bec_run G _ k hk (hr k hk)
  ·rw [e,show (1:Nat) = 0+1 from rfl,Tm.run_cons,Wb.room_var hs,Tm.run_zero];rfl
 ·rcases sig_or (K:=K) G C v h2 with ⟨k,hk,rfl,e⟩ | ⟨_,e⟩
  ·rw [e] at hs;exact bec_vars G _ k hk s hs
  ·rw [e] at hs
   simp only [List.mem_cons,List.not_mem_nil,or_false] at hs
   omega
 ·obtain ⟨a,b,ha,hb,e1,e2,e3⟩:=htied j hj
  rw [← e1,← e2,sig_app G hS hr _ a (Nat.le_refl _) ha,sig_app G hS hr _ b (Nat.le_refl _) hb,e3]
 ·rcases sig_or (K:=K) G C v h2 with ⟨k,hk,rfl,e⟩ | ⟨_,e⟩
  ·rw [e,← bec_most G (hsound θ hθ H) _ k hk (hr k hk),(G.var hk h2).2,App_cons,if_pos h2,Wb.App_nil,List.append_nil]
  ·rw [e,App_cons,if_pos h2,Wb.App_nil,List.append_nil]
 ·rcases sig_or (K:=K) G C v h2 with ⟨k,hk,rfl,e2⟩ | ⟨_,e2⟩
  ·rw [e2] at e
   cases hy:sym n S C (C k) with
   | none =>
    rw [bec_none hy] at e
    have:=bst_ge (S:=S) (C:=C) n k hk rfl
    simp only [List.cons.injEq,and_true] at e
    omega
   | some q =>
    obtain ⟨hq,e1,e3⟩:=sym_some hy
    rw [bec_some hy] at e
    have:=(List.cons.inj e).1
    omega
  ·rw [e2] at e
   simp only [List.cons.injEq,and_true] at e
   omega
end Mt
end Go.Proofs.YtglohanbpjaieaaGreat
namespace Go.Proofs.YtglohanbpjaieaaGreat
open Go.Proofs Go.RowKit Go.Shelf Go.Maps
def Fnd (n:Nat) (N:Nat→Nat) (S:Nat→Int) (p j:Nat):Prop:=j < n∧(S j < 0→∀ k,k < j→S k≠S j)∧(0≤S j→N j = p∧∀ k,k < j→N k≠p)
structure Ties (W:World) (x n:Nat) (aN:Option Addr) (cN:Nat) (aC:Option Addr) (cC:Nat) (N:Nat→Nat) (C:Nat→Nat) (S:Nat→Int) (K:Nat→List Nat) (P:Nat→Nat→Nat):Prop where
 c0:W.cell? ⟨x,0,none⟩ = some (.slice aN n cN)
 c1:W.cell? ⟨x,1,none⟩ = some (.slice aC n cC)
 nd:∀ k,k < n→∃ b off,aN = some ⟨b,off,none⟩∧W.cell? ⟨b,off+k,none⟩ = some (ptr (N k))
 cl:∀ k,k < n→∃ b off,aC = some ⟨b,off,none⟩∧W.cell? ⟨b,off+k,none⟩ = some (.int .i64 (C k:Int))
 tr:∀ k,k < n→∃ a c,Node W (N k) (S k) (.slice a (Tm.room (S k)) c)∧∀ i,i < Tm.room (S k)→∃ b off,a = some ⟨b,off,none⟩∧W.cell? ⟨b,off+i,none⟩ = some (ptr (P k i))
 ps:∀ k i,k < n→i < Tm.room (S k)→∃ v,Node W (P k i) (S ((K k)[i]?.getD 0)) v
 fd:∀ k i,k < n→i < Tm.room (S k)→Fnd n N S (P k i) ((K k)[i]?.getD 0)
 le:n≤5000
theorem Ties.drewN {W:World} {x n:Nat} {aN:Option Addr} {cN:Nat} {aC:Option Addr} {cC:Nat} {N:Nat→Nat} {C:Nat→Nat} {S:Nat→Int} {K:Nat→List Nat} {P:Nat→Nat→Nat} (h:Ties W x n aN cN aC cC N C S K P) (d:Nat):Ties (W.drewN d) x n aN cN aC cC N C S K P :=
 ⟨h.c0,h.c1,h.nd,h.cl,h.tr,h.ps,h.fd,h.le⟩
theorem Tryz.infoTree:∃ j,Tryz.prog.info? 121 = some j∧j.size≠0:=by
 have h:(Tryz.prog.info? 121).map (fun i=>i.size) = some 2:=by kernel_rfl
 cases hi:Tryz.prog.info? 121 with
 | none=>rw [hi] at h;cases h
 | some j =>
  rw [hi] at h
  simp only [Option.map_some,Option.some.injEq] at h
  exact ⟨j,rfl,by omega⟩
set_option maxRecDepth 100000 in
set_option maxHeartbeats 1000000 in
theorem node_fd {x n:Nat} {aN:Option Addr} {cN:Nat} {N:Nat→Nat} {S:Nat→Int} (w:World) (p j:Nat) (hc0:w.cell? ⟨x,0,none⟩ = some (.slice aN n cN)) (hnd:∀ k,k < n→∃ b off,aN = some ⟨b,off,none⟩∧w.cell? ⟨b,off+k,none⟩ = some (ptr (N k))) (hsg:∀ k,k < n→∃ v,Node w (N k) (S k) v) (hn:n≤5000)
 {vp:Value} (hpN:Node w p (S j) vp) (F:Fnd n N S p j) :
 Calls Tryz.prog 80 #[ptr x,ptr p] w fun e w'=>e = .returned (.int .i64 (j:Int))∧∃ m,w' = w.drewN m:=by
 obtain ⟨hj,F1,F2⟩:=F
 obtain ⟨ti,hti,htz⟩:=Tryz.infoTree
 have hn':(n:Int)≤5000:=by omega
 have Hnd:=hid hnd
 have hp:=hpN.cell0
 have HpN:=hid hpN
 clear hpN
 have Hsg:=hid hsg
 clear hnd hsg
 by_cases hs:S j < 0
 ·have F1':=hid (F1 hs)
  clear F1 F2
  have Hd:Hid (S j = S j):=rfl
  generalize hsd:S j = s at *
  have HS:=hid hsd
  clear hsd Hd
  go_enter Tryz.func80,Tryz.ntmps80
  go_wp2
  go_loopw [5] (fun i wr=>∃ k:Nat,k≤j∧i = .int .i64 (k:Int)∧∃ d,wr = w.drewN d) (fun i _=>j - (intOf i).toNat)
  case atStart=>exact ⟨0,Nat.zero_le _,rfl,0,rfl⟩
  case round =>
   obtain ⟨k,hk,rfl,d,rfl⟩:=hrel
   have hkn:(k:Int) < (n:Int):=by omega
   obtain ⟨b,off,rfl,hck⟩:=Hnd.out k (by omega)
   obtain ⟨vk,hNk⟩:=Hsg.out k (by omega)
   have hsk:=hNk.cell0
   clear hNk
   by_cases hlt:k < j
   ·have hne:(S k == s) = false:=by simpa using F1'.out k hlt
    generalize S k = sk at *
    go_wp2
    go_quiet (fail)
    go_wp2
    go_roundw
    case rel=>exact ⟨k+1,by omega,by go_num,_,rfl⟩
    case measure=>simp [intOf];omega
   ·obtain rfl:k = j:=by omega
    rw [HS.out] at hsk
    go_wp2
    go_quiet (fail)
    go_wp2
    go_ret
    exact ⟨rfl,_,World.drewN_drewN _ _ _⟩
 ·obtain ⟨F3,F4⟩:=F2 (by omega)
  have F4':=hid F4
  have F3':=hid F3
  have hs0:decide (S j < 0) = false:=by simpa using hs
  clear F1 F2 F3 F4 hs
  generalize S j = s at *
  have h0n:(0:Int) < (n:Int):=by omega
  go_enter Tryz.func80,Tryz.ntmps80
  go_wp2
  refine wp_loop_rounds 1 ?_
  rw [rounds_succ]
  go_wp2
  go_loopw [6] (fun i wr=>∃ k:Nat,k≤j∧i = .int .i64 (k:Int)∧∃ d,wr = w.drewN d) (fun i _=>j - (intOf i).toNat)
  case atStart=>exact ⟨0,Nat.zero_le _,rfl,0,rfl⟩
  case round =>
   obtain ⟨k,hk,rfl,d,rfl⟩:=hrel
   have hkn:(k:Int) < (n:Int):=by omega
   obtain ⟨b,off,rfl,hck⟩:=Hnd.out k (by omega)
   by_cases hlt:k < j
   ·obtain ⟨vk,hNk⟩:=Hsg.out k (by omega)
    have hrun:=run_eql_ptr_other (P:=Tryz.prog) (w.drewN d) (a:=⟨N k,0,none⟩) (b:=⟨p,0,none⟩) Tryz.underlying117 hti htz (fun e=>F4'.out k hlt (by cases e;rfl)) hNk HpN.out
    clear hNk
    generalize N k = q at *
    go_wp2
    go_roundw
    case rel=>exact ⟨k+1,by omega,by go_num,_,rfl⟩
    case measure=>simp [intOf];omega
   ·obtain rfl:k = j:=by omega
    rw [F3'.out] at hck
    have hrun:=run_eql_ptr_same (P:=Tryz.prog) (w.drewN d) ⟨p,0,none⟩ Tryz.underlying117 hti
    go_wp2
    go_ret
    exact ⟨rfl,_,rfl⟩
namespace Mt
theorem sym_of {n:Nat} {S:Nat→Int} {C:Nat→Nat} {c k:Nat} (hk:k < n) (h1:C k = c) (h2:0≤S k) (h:∀ j,j < k→¬ (C j = c∧0≤S j)):sym n S C c = some k:=by
 unfold sym
 rw [List.find?_range_eq_some]
 refine ⟨by simp [h1,h2],List.mem_range.2 hk,fun j hj=>?_⟩
 have:=h j hj
 simp only [Bool.not_eq_true',Bool.and_eq_false_iff,decide_eq_false_iff_not]
 by_cases e:C j = c
 ·exact .inr fun h3=>this ⟨e,h3⟩
 ·exact .inl e
theorem sym_not {n:Nat} {S:Nat→Int} {C:Nat→Nat} {c:Nat} (h:∀ j,j < n→¬ (C j = c∧0≤S j)):sym n S C c = none:=by
 unfold sym
 rw [List.find?_eq_none]
 intro j hj
 have:=h j (List.mem_range.1 hj)
 simpa using this
def symI (n:Nat) (S:Nat→Int) (C:Nat→Nat) (c:Nat):Int:=match sym n S C c with
 | some k=>(k:Int)
 | none=>-1
end Mt
set_option maxRecDepth 100000 in
set_option maxHeartbeats 1000000 in
theorem symbol_any {x n:Nat} {aN:Option Addr} {cN:Nat} {aC:Option Addr} {cC:Nat} {N:Nat→Nat} {C:Nat→Nat} {S:Nat→Int} {K:Nat→List Nat} {P:Nat→Nat→Nat} (w:World) (H:Ties w x n aN cN aC cC N C S K P) (c:Nat) :
 Calls Tryz.prog 111 #[ptr x,.int .i64 (c:Int)] w fun e w'=>e = .returned (.int .i64 (Mt.symI n S C c))∧∃ m,w' = w.drewN m:=by
 have hn:=H.le
 have hn':(n:Int)≤5000:=by omega
 have hc0:=H.c0
 have hc1:=H.c1
 have HH:=hid H
 clear H
 have Hs:=hid (fun k (hk:k < n) h1 h2 h=>(by unfold Mt.symI;rw [Mt.sym_of (S:=S) (C:=C) (c:=c) hk h1 h2 h]:Mt.symI n S C c = (k:Int)))
 have Hn:=hid (fun h=>(by unfold Mt.symI;rw [Mt.sym_not (n:=n) (S:=S) (C:=C) (c:=c) h]:Mt.symI n S C c = -1))
 generalize Mt.symI n S C c = r at *
 go_enter Tryz.func111,Tryz.ntmps111
 go_wp2
 go_loopw [5] (fun i wr=>∃ k:Nat,k≤n∧i = .int .i64 (k:Int)∧Hid (∀ j,j < k→¬ (C j = c∧0≤S j))∧∃ d,wr = w.drewN d) (fun i _=>n - (intOf i).toNat)
 case atStart=>exact ⟨0,Nat.zero_le _,rfl,fun j hj=>by omega,0,rfl⟩
 case round =>
  obtain ⟨k,hk,rfl,hno,d,rfl⟩:=hrel
  by_cases hlt:k < n
  ·have hkn:(k:Int) < (n:Int):=by omega
   obtain ⟨b,off,rfl,hck⟩:=HH.out.cl k hlt
   by_cases hC:C k = c
   ·obtain ⟨b',off',rfl,hnk⟩:=HH.out.nd k hlt
    obtain ⟨a1,c1,hNk,_⟩:=HH.out.tr k hlt
    have hsk:=hNk.cell0
    clear hNk
    have HC:=hid hC
    have heq:((C k:Int) == (c:Int)) = true:=by rw [hC];simp
    clear hC
    by_cases hs:0≤S k
    ·have hr:=Hs.out k hlt HC.out hs hno.out
     have Hr:=hid hr
     clear hr
     generalize S k = s at *
     generalize C k = ck at *
     generalize N k = q at *
     go_wp2
     go_ret
     exact ⟨by rw [Hr.out];rfl,_,rfl⟩
    ·have hs':decide (0≤S k) = false:=by simpa using hs
     have Hno':Hid (∀ j,j < k+1→¬ (C j = c∧0≤S j)):=fun j hj h=>by
      by_cases e:j = k
      ·subst e;exact hs h.2
      ·exact hno.out j (by omega) h
     clear hs
     generalize S k = s at *
     generalize C k = ck at *
     generalize N k = q at *
     go_wp2
     go_roundw
     case rel=>exact ⟨k+1,by omega,by go_num,Hno',_,rfl⟩
     case measure=>simp [intOf];omega
   ·have hne:((C k:Int) == (c:Int)) = false:=by simp;omega
    have Hno':Hid (∀ j,j < k+1→¬ (C j = c∧0≤S j)):=fun j hj h=>by
     by_cases e:j = k
     ·subst e;exact hC h.1
     ·exact hno.out j (by omega) h
    clear hC
    generalize C k = ck at *
    go_wp2
    go_roundw
    case rel=>exact ⟨k+1,by omega,by go_num,Hno',_,rfl⟩
    case measure=>simp [intOf];omega
  ·obtain rfl:k = n:=by omega
   have Hr:=hid (Hn.out hno.out)
   go_wp2
   go_ret
   exact ⟨by rw [Hr.out];rfl,_,rfl⟩
theorem mt_any_snoc (l:List Nat) (f:Nat→Bool) (i:Nat) (hi:i < l.length) (h:(l.take i).any f = false) (h2:f (l[i]?.getD 0) = false):(l.take (i+1)).any f = false:=by
 rw [List.take_succ_eq_append_getElem hi,List.any_append,h]
 rw [List.getElem?_eq_getElem hi] at h2
 simpa using h2
theorem mt_any_hit (l:List Nat) (f:Nat→Bool) (i:Nat) (hi:i < l.length) (h2:f (l[i]?.getD 0) = true):l.any f = true:=by
 rw [List.getElem?_eq_getElem hi] at h2
 exact List.any_eq_true.2 ⟨_,List.getElem_mem hi,h2⟩
set_option maxRecDepth 100000 in
set_option maxHeartbeats 1000000 in
theorem round_step {x n:Nat} {aN:Option Addr} {cN:Nat} {aC:Option Addr} {cC:Nat} {N:Nat→Nat} {C:Nat→Nat} {S:Nat→Int} {K:Nat→List Nat} {P:Nat→Nat→Nat} (hroom:∀ k,k < n→(K k).length = Tm.room (S k)) (w:World) (H:Ties w x n aN cN aC cC N C S K P) (f deep c:Nat) (hf:f+1+deep = n+1)
 (ih:∀ (c' d:Nat),Calls Tryz.prog 84 #[ptr x,.int .i64 (c':Int),.int .i64 ((deep:Int)+1)] (w.drewN d) fun e w'=>e = .returned (.bool (Mt.rnd n S K C f c'))∧∃ m,w' = (w.drewN d).drewN m) :
 Calls Tryz.prog 84 #[ptr x,.int .i64 (c:Int),.int .i64 (deep:Int)] w fun e w'=>e = .returned (.bool (Mt.rnd n S K C (f+1) c))∧∃ m,w' = w.drewN m:=by
 have hn:=H.le
 have hn':(n:Int)≤5000:=by omega
 have hc0:=H.c0
 have hc1:=H.c1
 have hdn:(deep:Int)≤(n:Int):=by omega
 have hsy:=symbol_any w H c
 have HH:=hid H
 have IH:=hid ih
 clear H ih
 cases hy:Mt.sym n S C c with
 | none =>
  have hr:=hid (Mt.rnd_none (K:=K) (f:=f) hy)
  have hsi:Mt.symI n S C c = -1:=by unfold Mt.symI;rw [hy]
  rw [hsi] at hsy
  clear hsi hy
  generalize Mt.rnd n S K C (f+1) c = r at *
  go_enter Tryz.func84,Tryz.ntmps84
  go_wp2_with (first
   | (go_at_call 111;refine hsy.mono ?_;clear hsy;rintro e w1 ⟨rfl,d,rfl⟩))
  go_ret
  exact ⟨by rw [hr.out];rfl,_,rfl⟩
 | some k =>
  obtain ⟨hk,e1,e2⟩:=Mt.sym_some hy
  have hr:=hid (Mt.rnd_some (K:=K) (f:=f) hy)
  have hsi:Mt.symI n S C c = (k:Int):=by unfold Mt.symI;rw [hy]
  rw [hsi] at hsy
  clear hsi hy e1 e2
  generalize Mt.rnd n S K C (f+1) c = r at *
  have hkn:(k:Int) < (n:Int):=by omega
  obtain ⟨b',off',rfl,hnk⟩:=HH.out.nd k hk
  obtain ⟨a1,c1,hNk,hparts⟩:=HH.out.tr k hk
  have hp1:=hNk.cell1
  have Hp:=hid hparts
  have hr2:=Tm.room_le (S k)
  have hrK:=hid (hroom k hk)
  clear hNk hparts
  obtain ⟨bC,offC,rfl,_⟩:=HH.out.cl k hk
  have Hps:=hid (fun i hi=>HH.out.ps k i hk hi)
  have Hfd:=hid (fun i hi=>HH.out.fd k i hk hi)
  have Hnd:=hid (fun d i hi=>by
   obtain ⟨v,hv⟩:=HH.out.ps k i hk hi
   exact node_fd (x:=x) (w.drewN d) (P k i) ((K k)[i]?.getD 0) HH.out.c0 HH.out.nd (fun k hk=>by obtain ⟨a,c,h,_⟩:=HH.out.tr k hk;exact ⟨_,h⟩) HH.out.le hv (HH.out.fd k i hk hi))
  generalize hrm:Tm.room (S k) = rm at *
  clear hrm
  have hrm2:(rm:Int)≤2:=by omega
  generalize hKk:K k = Kk at *
  clear hKk
  go_enter Tryz.func84,Tryz.ntmps84
  go_wp2_with (first
   | (go_at_call 111;refine hsy.mono ?_;clear hsy;rintro e w1 ⟨rfl,d,rfl⟩))
  go_loopw [8] (fun i wr=>∃ j:Nat,j≤rm∧i = .int .i64 (j:Int)∧Hid ((Kk.take j).any (fun i=>Mt.rnd n S K C f (C i)) = false)∧Hid (∃ d,wr = w.drewN d)) (fun i _=>rm - (intOf i).toNat)
  case atStart=>exact ⟨0,Nat.zero_le _,rfl,by simp [Hid],_,rfl⟩
  case round =>
   obtain ⟨j,hj,rfl,hno,hwr⟩:=hrel
   have h0r:wr.cell? ⟨x,0,none⟩ = some (.slice (some ⟨b',off',none⟩) n cN):=by obtain ⟨d,e⟩:=hwr;rw [e];exact hc0
   have h1r:wr.cell? ⟨x,1,none⟩ = some (.slice (some ⟨bC,offC,none⟩) n cC):=by obtain ⟨d,e⟩:=hwr;rw [e];exact hc1
   have hnr:wr.cell? ⟨b',off'+k,none⟩ = some (ptr (N k)):=by obtain ⟨d,e⟩:=hwr;rw [e];exact hnk
   have hpr:wr.cell? ⟨N k,1,none⟩ = some (.slice a1 rm c1):=by obtain ⟨d,e⟩:=hwr;rw [e];exact hp1
   by_cases hlt:j < rm
   ·have hjr:(j:Int) < (rm:Int):=by omega
    obtain ⟨b,off,rfl,hcj⟩:=Hp.out j hlt
    obtain ⟨hin,_⟩:=Hfd.out j hlt
    obtain ⟨_,_,e,hcl⟩:=HH.out.cl _ hin
    cases e
    have hin':((Kk[j]?.getD 0:Nat):Int) < (n:Int):=by omega
    have Hhit:=hid (mt_any_hit Kk (fun i=>Mt.rnd n S K C f (C i)) j (by rw [hrK.out];exact hlt))
    have Hmiss:=hid (mt_any_snoc Kk (fun i=>Mt.rnd n S K C f (C i)) j (by rw [hrK.out];exact hlt) hno.out)
    have hcjr:wr.cell? ⟨b,off+j,none⟩ = some (ptr (P k j)):=by obtain ⟨d,e⟩:=hwr;rw [e];exact hcj
    have hclr:wr.cell? ⟨bC,offC+(Kk[j]?.getD 0),none⟩ = some (.int .i64 (C (Kk[j]?.getD 0):Int)):=by obtain ⟨d,e⟩:=hwr;rw [e];exact hcl
    have hnode:Hid (∀ m,Calls Tryz.prog 80 #[ptr x,ptr (P k j)] (wr.drewN m) fun e w'=>e = .returned (.int .i64 ((Kk[j]?.getD 0:Nat):Int))∧∃ m',w' = (wr.drewN m).drewN m'):=fun m=>by obtain ⟨d,e⟩:=hwr;have:=Hnd.out (d+m) j hlt;rw [← World.drewN_drewN,← e] at this;exact this
    generalize Kk[j]?.getD 0 = q at *
    have hrec:Hid (∀ m,Calls Tryz.prog 84 #[ptr x,.int .i64 (C q:Int),.int .i64 ((deep:Int)+1)] (wr.drewN m) fun e w'=>e = .returned (.bool (Mt.rnd n S K C f (C q)))∧∃ m',w' = (wr.drewN m).drewN m'):=fun m=>by obtain ⟨d,e⟩:=hwr;have:=IH.out (C q) (d+m);rw [← World.drewN_drewN,← e] at this;exact this
    have HQ:Hid (∀ m,∃ d,wr.drewN m = w.drewN d):=fun m=>by obtain ⟨d,e⟩:=hwr;exact ⟨_,by rw [e];exact World.drewN_drewN _ _ _⟩
    clear hc0 hc1 hnk hp1 hcj hcl
    cases hq:Mt.rnd n S K C f (C q) with
    | true =>
     rw [hq] at hrec
     have hh:=hid (Hhit.out hq)
     clear Hhit Hmiss hq
     generalize C q = cq at *
     generalize P k j = pj at *
     go_wp2
     go_quiet ((first
      | (go_at_call 80;exact Calls.quiet_of (hnode.out _))
      | (go_at_call 84;exact Calls.quiet_of (hrec.out _))))
     go_wp2
     go_ret
     exact ⟨by rw [hr.out,hh.out];rfl,HQ.out _⟩
    | false =>
     rw [hq] at hrec
     have hh:=hid (Hmiss.out hq)
     clear Hhit Hmiss hq
     generalize C q = cq at *
     generalize P k j = pj at *
     go_wp2
     go_quiet ((first
      | (go_at_call 80;exact Calls.quiet_of (hnode.out _))
      | (go_at_call 84;exact Calls.quiet_of (hrec.out _))))
     go_wp2
     go_roundw
     case rel=>exact ⟨j+1,by omega,by go_num,hh,HQ.out _⟩
     case measure=>simp [intOf];omega
   ·obtain rfl:j = rm:=by omega
    have hall:=hid (show (Kk.any fun i=>Mt.rnd n S K C f (C i)) = false by have:=hno.out;rw [← hrK.out,List.take_length] at this;exact this)
    go_wp2
    go_ret
    exact ⟨by rw [hr.out,hall.out];rfl,hwr⟩
set_option maxRecDepth 100000 in
set_option maxHeartbeats 1000000 in
theorem round_any {x n:Nat} {aN:Option Addr} {cN:Nat} {aC:Option Addr} {cC:Nat} {N:Nat→Nat} {C:Nat→Nat} {S:Nat→Int} {K:Nat→List Nat} {P:Nat→Nat→Nat} (hroom:∀ k,k < n→(K k).length = Tm.room (S k)):∀ (f deep c:Nat) (w:World),Ties w x n aN cN aC cC N C S K P→f+deep = n+1 →
 Calls Tryz.prog 84 #[ptr x,.int .i64 (c:Int),.int .i64 (deep:Int)] w fun e w'=>e = .returned (.bool (Mt.rnd n S K C f c))∧∃ m,w' = w.drewN m:=by
 intro f
 induction f with
 | zero =>
  intro deep c w H hf
  have hn:=H.le
  have hc0:=H.c0
  have hd:(n:Int) < (deep:Int):=by omega
  clear H
  rw [show Mt.rnd n S K C 0 c = true from rfl]
  go_enter Tryz.func84,Tryz.ntmps84
  go_wp2
  go_ret
  exact ⟨rfl,0,rfl⟩
 | succ f ih =>
  intro deep c w H hf
  refine round_step hroom w H f deep c hf fun c' d=>?_
  have:=ih (deep+1) c' (w.drewN d) (H.drewN d) (by omega)
  rw [show ((deep+1:Nat):Int) = (deep:Int)+1 from by omega] at this
  exact this
end Go.Proofs.YtglohanbpjaieaaGreat
namespace Go.Proofs.YtglohanbpjaieaaGreat
open Go.Proofs Go.RowKit Go.Shelf Go.Maps
theorem cell_heap {W W':World} (e:W'.heap = W.heap) (p:Addr):W'.cell? p = W.cell? p:=by simp only [World.cell?,e]
theorem Ties.keep {W W':World} {x n:Nat} {aN:Option Addr} {cN:Nat} {aC:Option Addr} {cC:Nat} {N:Nat→Nat} {C:Nat→Nat} {S:Nat→Int} {K:Nat→List Nat} {P:Nat→Nat→Nat} (h:Ties W x n aN cN aC cC N C S K P) (hk:∀ k,k < W.heap.size→W'.heap[k]? = W.heap[k]?):Ties W' x n aN cN aC cC N C S K P:=by
 have hc:∀ (p:Addr) v,W.cell? p = some v→W'.cell? p = some v:=fun p v hv=>by
  have hlt:p.block < W.heap.size:=lt_of_cell hv
  rw [World.cell?_of_block (hk p.block hlt),hv]
 refine ⟨hc _ _ h.c0,hc _ _ h.c1,fun k hk'=>?_,fun k hk'=>?_,fun k hk'=>?_,fun k i hk' hi=>?_,h.fd,h.le⟩
 ·obtain ⟨b,off,e,h1⟩:=h.nd k hk';exact ⟨b,off,e,hc _ _ h1⟩
 ·obtain ⟨b,off,e,h1⟩:=h.cl k hk';exact ⟨b,off,e,hc _ _ h1⟩
 ·obtain ⟨a,c,h1,h2⟩:=h.tr k hk'
  exact ⟨a,c,(hk _ h1.lt).trans h1,fun i hi=>by obtain ⟨b,off,e,h3⟩:=h2 i hi;exact ⟨b,off,e,hc _ _ h3⟩⟩
 ·obtain ⟨v,h1⟩:=h.ps k i hk' hi;exact ⟨v,(hk _ h1.lt).trans h1⟩
theorem Ties.heap {W W':World} {x n:Nat} {aN:Option Addr} {cN:Nat} {aC:Option Addr} {cC:Nat} {N:Nat→Nat} {C:Nat→Nat} {S:Nat→Int} {K:Nat→List Nat} {P:Nat→Nat→Nat} (h:Ties W x n aN cN aC cC N C S K P) (e:W'.heap = W.heap):Ties W' x n aN cN aC cC N C S K P:=h.keep fun k _=>by rw [e]
theorem Ties.below {W W':World} {x n:Nat} {aN:Option Addr} {cN:Nat} {aC:Option Addr} {cC:Nat} {N:Nat→Nat} {C:Nat→Nat} {S:Nat→Int} {K:Nat→List Nat} {P:Nat→Nat→Nat} (h:Ties W x n aN cN aC cC N C S K P) (hB:Below W.heap.size W W'):Ties W' x n aN cN aC cC N C S K P:=h.keep hB.block
theorem Ties.node {W:World} {x n:Nat} {aN:Option Addr} {cN:Nat} {aC:Option Addr} {cC:Nat} {N:Nat→Nat} {C:Nat→Nat} {S:Nat→Int} {K:Nat→List Nat} {P:Nat→Nat→Nat} (h:Ties W x n aN cN aC cC N C S K P) {k i:Nat} (hk:k < n) (hi:i < Tm.room (S k)) :
 Calls Tryz.prog 80 #[ptr x,ptr (P k i)] W fun e w'=>e = .returned (.int .i64 (((K k)[i]?.getD 0:Nat):Int))∧∃ m,w' = W.drewN m:=by
 obtain ⟨v,hv⟩:=h.ps k i hk hi
 exact node_fd (x:=x) W (P k i) ((K k)[i]?.getD 0) h.c0 h.nd (fun k hk=>by obtain ⟨a,c,h,_⟩:=h.tr k hk;exact ⟨_,h⟩) h.le hv (h.fd k i hk hi)
def BecAns (w w':World) (e:Ending) (zs:List Int):Prop:=∃ v,e = .returned v∧Below w.heap.size w w'∧((zs.length≤30∧New w.heap.size w' v zs)∨(30 < zs.length∧v = .slice none 0 0))
set_option maxRecDepth 100000 in
set_option maxHeartbeats 1000000 in
theorem become_var {x n:Nat} {aN:Option Addr} {cN:Nat} {aC:Option Addr} {cC:Nat} {N:Nat→Nat} {C:Nat→Nat} {S:Nat→Int} {K:Nat→List Nat} {P:Nat→Nat→Nat} (w:World) (H:Ties w x n aN cN aC cC N C S K P) (c:Nat) (hy:Mt.sym n S C c = none) :
 Calls Tryz.prog 86 #[ptr x,.int .i64 (c:Int)] w fun e w'=>BecAns w w' e [Mt.bst S C c n]:=by
 have hn:=H.le
 have hn':(n:Int)≤5000:=by omega
 have hc0:=H.c0
 have hc1:=H.c1
 have hsy:=symbol_any w H c
 have hsi:Mt.symI n S C c = -1:=by unfold Mt.symI;rw [hy]
 rw [hsi] at hsy
 have HH:=hid H
 clear H hsi hy
 go_enter Tryz.func86,Tryz.ntmps86
 go_wp2_with (first
  | (go_at_call 111;refine hsy.mono ?_;clear hsy;rintro e w1 ⟨rfl,d,rfl⟩))
 go_loopw [6,7] (fun u i wr=>∃ k:Nat,k≤n∧i = .int .i64 (k:Int)∧u = .int .i64 (Mt.bst S C c k)∧wr = w.drewN d) (fun _ i _=>n - (intOf i).toNat)
 case atStart=>exact ⟨0,Nat.zero_le _,rfl,rfl,rfl⟩
 case round =>
  obtain ⟨k,hk,rfl,rfl,rfl⟩:=hrel
  by_cases hlt:k < n
  ·have hkn:(k:Int) < (n:Int):=by omega
   obtain ⟨b,off,rfl,hck⟩:=HH.out.cl k hlt
   obtain ⟨b',off',rfl,hnk⟩:=HH.out.nd k hlt
   obtain ⟨a1,c1,hNk,_⟩:=HH.out.tr k hlt
   have hsk:=hNk.cell0
   clear hNk
   have hb:Hid (Mt.bst S C c (k+1) = if C k = c∧Mt.bst S C c k < S k then S k else Mt.bst S C c k):=rfl
   have Hb0:Hid (Mt.bst S C c k = Mt.bst S C c k):=rfl
   generalize hr0:Mt.bst S C c k = r0 at hb ⊢
   clear hr0 Hb0
   by_cases hC:C k = c
   ·have heq:((C k:Int) == (c:Int)) = true:=by rw [hC];simp
    have HC:=hid hC
    clear hC
    by_cases hs:r0 < S k
    ·have Hr:=hid (hb.out.trans (if_pos ⟨HC.out,hs⟩))
     clear hb
     generalize S k = s at *
     generalize C k = ck at *
     generalize N k = q at *
     go_wp2
     go_roundw
     case rel=>exact ⟨k+1,by omega,by go_num,by rw [Hr.out],by first | rfl | trivial⟩
     case measure=>simp [intOf];omega
    ·have Hr:=hid (hb.out.trans (if_neg fun h=>hs h.2))
     have hs':decide (r0 < S k) = false:=by simpa using hs
     clear hb hs
     generalize S k = s at *
     generalize C k = ck at *
     generalize N k = q at *
     go_wp2
     go_roundw
     case rel=>exact ⟨k+1,by omega,by go_num,by rw [Hr.out],by first | rfl | trivial⟩
     case measure=>simp [intOf];omega
   ·have hne:((C k:Int) == (c:Int)) = false:=by simp;omega
    have Hr:=hid (hb.out.trans (if_neg fun h=>hC h.1))
    clear hb hC
    generalize S k = s at *
    generalize C k = ck at *
    generalize N k = q at *
    go_wp2
    go_roundw
    case rel=>exact ⟨k+1,by omega,by go_num,by rw [Hr.out],by first | rfl | trivial⟩
    case measure=>simp [intOf];omega
  ·obtain rfl:k = n:=by omega
   have hl0:=New.lit w.heap.size (w.drewN d) [Mt.bst S C c k] (Nat.le_refl _) (by unfold maxLen;simp)
   simp only [List.map_cons,List.map_nil,List.length_cons,List.length_nil,Nat.zero_add] at hl0
   have hB0:Below w.heap.size w ((w.drewN d).alloc (.cells #[.int .i64 (Mt.bst S C c k)] 3)):=(below_drewN (Below.refl _ _) d).alloc (Nat.le_refl _) _
   go_wp2
   go_ret
   exact ⟨_,rfl,hB0,.inl ⟨by simp,hl0⟩⟩
attribute [local go_sem ↓] Go.wp_at_zero Go.wp_at_succ
namespace Mt
def becT (n:Nat) (S:Nat→Int) (K:Nat→List Nat) (C:Nat→Nat) (f:Nat) (l:List Nat) (j:Nat):List Int:=((l.take j).map fun i=>bec n S K C f (C i)).flatten
theorem becT_zero (n:Nat) (S:Nat→Int) (K:Nat→List Nat) (C:Nat→Nat) (f:Nat) (l:List Nat):becT n S K C f l 0 = []:=rfl
theorem becT_succ {n:Nat} {S:Nat→Int} {K:Nat→List Nat} {C:Nat→Nat} {f:Nat} {l:List Nat} {j:Nat} (hj:j < l.length):becT n S K C f l (j+1) = becT n S K C f l j++bec n S K C f (C (l[j]?.getD 0)):=by
 unfold becT
 rw [List.take_succ_eq_append_getElem hj,List.map_append,List.flatten_append,List.getElem?_eq_getElem hj]
 simp
theorem becT_len {n:Nat} {S:Nat→Int} {K:Nat→List Nat} {C:Nat→Nat} {f:Nat} {l:List Nat} (j:Nat):(becT n S K C f l j).length≤((l.map fun i=>bec n S K C f (C i)).flatten).length:=by
 unfold becT
 have h:(l.map fun i=>bec n S K C f (C i)).flatten = ((l.take j).map fun i=>bec n S K C f (C i)).flatten++((l.drop j).map fun i=>bec n S K C f (C i)).flatten:=by
  rw [← List.flatten_append,← List.map_append,List.take_append_drop]
 rw [h,List.length_append]
 omega
end Mt
set_option maxRecDepth 100000 in
set_option maxHeartbeats 2000000 in
theorem become_sym {x n:Nat} {aN:Option Addr} {cN:Nat} {aC:Option Addr} {cC:Nat} {N:Nat→Nat} {C:Nat→Nat} {S:Nat→Int} {K:Nat→List Nat} {P:Nat→Nat→Nat} (hroom:∀ k,k < n→(K k).length = Tm.room (S k)) (w:World) (H:Ties w x n aN cN aC cC N C S K P) (f c k:Nat) (hy:Mt.sym n S C c = some k) (hpos:∀ i∈K k,0 < (Mt.bec n S K C f (C i)).length)
 (ih:∀ (i:Nat) (W:World),i∈K k→Ties W x n aN cN aC cC N C S K P→Calls Tryz.prog 86 #[ptr x,.int .i64 (C i:Int)] W fun e w'=>BecAns W w' e (Mt.bec n S K C f (C i))) :
 Calls Tryz.prog 86 #[ptr x,.int .i64 (c:Int)] w fun e w'=>BecAns w w' e (S k :: ((K k).map fun i=>Mt.bec n S K C f (C i)).flatten):=by
 have hn:=H.le
 have hn':(n:Int)≤5000:=by omega
 have hc0:=H.c0
 have hc1:=H.c1
 have hsy:=symbol_any w H c
 have hsi:Mt.symI n S C c = (k:Int):=by unfold Mt.symI;rw [hy]
 obtain ⟨hk,_,_⟩:=Mt.sym_some hy
 rw [hsi] at hsy
 have hkn:(k:Int) < (n:Int):=by omega
 obtain ⟨b',off',rfl,hnk⟩:=H.nd k hk
 obtain ⟨a1,c1,hNk,hparts⟩:=H.tr k hk
 have hp0:=hNk.cell0
 have hp1:=hNk.cell1
 obtain ⟨bC,offC,rfl,_⟩:=H.cl k hk
 have hr2:=Tm.room_le (S k)
 have hrK:=hid (hroom k hk)
 have Hp:=hid hparts
 have Hcl:=hid (fun i hi=>H.cl i hi)
 have Hfd:=hid (fun i hi=>H.fd k i hk hi)
 have Hnode:=hid (fun W (hW:Ties W x n (some ⟨b',off',none⟩) cN (some ⟨bC,offC,none⟩) cC N C S K P) i hi=>hW.node (k:=k) (i:=i) hk hi)
 have HH:=hid H
 have IH:=hid ih
 have Hpos:=hid hpos
 clear H hsi hy ih hparts hNk hpos
 generalize hrm:Tm.room (S k) = rm at *
 clear hrm
 have hrm2:(rm:Int)≤2:=by omega
 have hl0:=New.lit w.heap.size w [S k] (Nat.le_refl _) (by unfold maxLen;simp)
 simp only [List.map_cons,List.map_nil,List.length_cons,List.length_nil,Nat.zero_add] at hl0
 go_enter Tryz.func86,Tryz.ntmps86
 go_wp2_with (first
  | (go_at_call 111;refine hsy.mono ?_;clear hsy;rintro e w1 ⟨rfl,d,rfl⟩))
 go_loopw [8,9] (fun u i wr=>∃ j:Nat,j≤rm∧i = .int .i64 (j:Int)∧Hid (New w.heap.size wr u (S k :: Mt.becT n S K C f (K k) j))∧Hid ((S k :: Mt.becT n S K C f (K k) j).length≤30)∧Hid (Below w.heap.size w wr)) (fun _ i _=>rm - (intOf i).toNat)
 case atStart=>exact ⟨0,Nat.zero_le _,rfl,hl0,by rw [Mt.becT_zero];simp [Hid],(below_drewN (Below.refl _ _) d).alloc (Nat.le_refl _) _⟩
 case round =>
  obtain ⟨j,hj,rfl,hNu,h30,hB⟩:=hrel
  have hTr:=HH.out.below hB.out
  have h0r:=hTr.c0
  have h1r:=hTr.c1
  have hBc:∀ (p:Addr) v,w.cell? p = some v→wr.cell? p = some v:=fun p v hv=>(hB.out.cell (p:=p) (lt_of_cell hv)).trans hv
  have hnr:=hBc _ _ hnk
  have hp0r:=hBc _ _ hp0
  have hp1r:=hBc _ _ hp1
  have HBc:=hid hBc
  have HTr:=hid hTr
  clear hBc hTr
  obtain ⟨u1,uc,rfl,hIu,_⟩:=New.ints hNu.out
  by_cases hlt:j < rm
  ·have hjr:(j:Int) < (rm:Int):=by omega
   obtain ⟨b,off,rfl,hcj⟩:=Hp.out j hlt
   obtain ⟨hin,_⟩:=Hfd.out j hlt
   obtain ⟨_,_,e,hcl⟩:=Hcl.out _ hin
   cases e
   have hin':(((K k)[j]?.getD 0:Nat):Int) < (n:Int):=by omega
   have hcjr:=HBc.out _ _ hcj
   have hclr:=HBc.out _ _ hcl
   have hjl:j < (K k).length:=by rw [hrK.out];exact hlt
   have hnode:=hid (fun W (e:W.heap = wr.heap)=>Hnode.out W (HTr.out.heap e) j hlt)
   have hsn:=hid (Mt.becT_succ (n:=n) (S:=S) (K:=K) (C:=C) (f:=f) hjl)
   have hmem:Hid ((K k)[j]?.getD 0∈K k):=by rw [List.getElem?_eq_getElem hjl];exact List.getElem_mem hjl
   have hrec:=hid (fun W (e:W.heap = wr.heap)=>IH.out _ W hmem.out (HTr.out.heap e))
   have hps:=Hpos.out _ hmem.out
   have hle:=hid (Mt.becT_len (n:=n) (S:=S) (K:=K) (C:=C) (f:=f) (l:=K k) (j+1))
   clear hmem
   generalize hq:(K k)[j]?.getD 0 = q at *
   clear hq
   have hwlt:=lt_of_cell hp1r
   have hxlt:=lt_of_cell h0r
   have hblt:=lt_of_cell hnr
   have hclt:=lt_of_cell hclr
   have hjlt:=lt_of_cell hcjr
   generalize Mt.bec n S K C f (C q) = zs at *
   generalize C q = cq at *
   generalize P k j = pj at *
   generalize Mt.becT n S K C f (K k) j = pre at *
   have hS:Hid (∀ W W':World,W.heap = wr.heap→Below W.heap.size W W'→W'.cell? ⟨x,0,none⟩ = some (.slice (some ⟨b',off',none⟩) n cN)∧W'.cell? ⟨x,1,none⟩ = some (.slice (some ⟨bC,offC,none⟩) n cC)∧W'.cell? ⟨b',off'+k,none⟩ = some (ptr (N k))∧W'.cell? ⟨N k,1,none⟩ = some (.slice (some ⟨b,off,none⟩) rm c1)∧W'.cell? ⟨b,off+j,none⟩ = some (ptr pj)∧W'.cell? ⟨bC,offC+q,none⟩ = some (.int .i64 (cq:Int))):=fun W W' e hb=>by
    have hc:∀ (p:Addr) v,wr.cell? p = some v→W'.cell? p = some v:=fun p v hv=>by
     have h1:W.cell? p = some v:=(cell_heap e p).trans hv
     exact (hb.cell (p:=p) (lt_of_cell h1)).trans h1
    exact ⟨hc _ _ h0r,hc _ _ h1r,hc _ _ hnr,hc _ _ hp1r,hc _ _ hcjr,hc _ _ hclr⟩
   go_wp2
   go_region_held3 (fun w'=>w'.cell? ⟨x,0,none⟩ = some (.slice (some ⟨b',off',none⟩) n cN)∧w'.cell? ⟨x,1,none⟩ = some (.slice (some ⟨bC,offC,none⟩) n cC)∧w'.cell? ⟨b',off'+k,none⟩ = some (ptr (N k))∧w'.cell? ⟨N k,1,none⟩ = some (.slice (some ⟨b,off,none⟩) rm c1)∧w'.cell? ⟨b,off+j,none⟩ = some (ptr pj)∧w'.cell? ⟨bC,offC+q,none⟩ = some (.int .i64 (cq:Int)))
    (first | assumption | exact ⟨h0r,h1r,hnr,hp1r,hcjr,hclr⟩) (first
    | (go_at_call 80;refine (hnode.out _ (by rfl)).mono ?_;rintro e w2 ⟨rfl,m2,rfl⟩)
    | (go_at_call 86;refine (hrec.out _ (by rfl)).mono ?_;rintro e w3 ⟨v3,rfl,hB3,hor⟩;have hS3:=hS.out _ _ (by rfl) hB3;obtain ⟨av,lv,cv,rfl⟩:∃ av lv cv,v3 = .slice av lv cv:=(by rcases hor with ⟨_,h⟩ | ⟨_,h⟩;exact New.slice3 h;exact ⟨_,_,_,h⟩);have Hor:=hid hor;clear hor;have HS3:=hid hS3;clear hS3))
   have hBw3:Hid (Below wr.heap.size wr w3):=⟨hB3.os,hB3.tape,hB3.output,hB3.size,hB3.block⟩
   have hB4:=hid (hB.out.trans (hBw3.out.mono hB.out.size))
   have hNu3:=hid (hNu.out.below hBw3.out)
   clear hS hrec hnode hB3 HS3
   rcases Hor.out with ⟨hz30,hN3⟩ | ⟨hz30,e3⟩
   ·obtain ⟨g3,cv',e3,hI3,hg1,hg2⟩:=New.ints hN3
    obtain ⟨rfl,rfl,rfl⟩:av = g3∧lv = zs.length∧cv = cv':=by cases e3;exact ⟨rfl,rfl,rfl⟩
    obtain ⟨b3,o3,rfl,_⟩:=hI3.at hps
    have hpl:(pre.length:Int)+1≤30:=by have:=h30.out;simp only [List.length_cons] at this;omega
    have hzl:(zs.length:Int)≤30:=by omega
    have HN3:=hid hN3
    have HI3:=hid hI3
    clear e3 hN3 hI3
    have hrun:(binOp .eql 35 (.slice (some ⟨b3,o3,none⟩) zs.length cv) (.slice none 0 0)).run Tryz.prog w3 = .ok (.bool false) w3:=Lib.run_eql_slice_nil w3 _ _ _ _ _ _ _ Tryz.underlying35
    by_cases ht:pre.length+1+zs.length≤30
    ·have ht':(pre.length:Int)+1+(zs.length:Int)≤30:=by omega
     go_wp2_with (at_builtin;go_loud (refine wp_append_ints _ rfl _ _ rfl w.heap.size _ (S k :: pre) rfl hNu3.out _ zs _ rfl (by intro h;cases h) HI3.out (by simp only [List.length_cons];omega) (by have:=hB4.out.size;omega) ?_);intro v5 w5 hN5 hB5)
     go_roundw
     case rel =>
      refine ⟨j+1,by omega,by go_num,?_,?_,hB4.out.trans hB5⟩
      ·show New _ _ _ _
       rw [hsn.out]
       exact hN5
      ·show _≤_
       rw [hsn.out]
       simp only [List.length_cons,List.length_append]
       omega
     case measure=>simp [intOf];omega
    ·have ht':30 < (pre.length:Int)+1+(zs.length:Int):=by omega
     go_wp2
     go_ret
     refine ⟨_,rfl,hB4.out,.inr ⟨?_,rfl⟩⟩
     have:=hle.out
     rw [hsn.out] at this
     simp only [List.length_cons,List.length_append] at this ⊢
     omega
   ·obtain ⟨rfl,rfl,rfl⟩:av = none∧lv = 0∧cv = 0:=by cases e3;exact ⟨rfl,rfl,rfl⟩
    clear e3
    have hrun:(binOp .eql 35 (.slice none 0 0) (.slice none 0 0)).run Tryz.prog w3 = .ok (.bool true) w3:=Lib.run_eql_slice_nil w3 _ _ _ _ _ _ _ Tryz.underlying35
    go_wp2
    go_ret
    refine ⟨_,rfl,hB4.out,.inr ⟨?_,rfl⟩⟩
    have:=hle.out
    rw [hsn.out] at this
    simp only [List.length_cons,List.length_append] at this ⊢
    omega
  ·obtain rfl:j = rm:=by omega
   have hall:Hid (Mt.becT n S K C f (K k) j = ((K k).map fun i=>Mt.bec n S K C f (C i)).flatten):=by
    show Mt.becT n S K C f (K k) j = _
    unfold Mt.becT
    rw [← hrK.out,List.take_length]
   go_wp2
   go_ret
   refine ⟨_,rfl,hB.out,.inl ⟨?_,?_⟩⟩
   ·rw [← hall.out];exact h30.out
   ·rw [← hall.out];exact hNu.out
theorem Mt.bec_pos {n:Nat} {S:Nat→Int} {K:Nat→List Nat} {C:Nat→Nat} {f c:Nat} (h:Mt.rnd n S K C f c = false):0 < (Mt.bec n S K C f c).length:=by
 cases f with
 | zero=>simp [Mt.rnd] at h
 | succ f =>
  cases hy:Mt.sym n S C c with
  | none=>rw [Mt.bec_none hy];simp
  | some k=>rw [Mt.bec_some hy];simp
theorem becomes_any {x n:Nat} {aN:Option Addr} {cN:Nat} {aC:Option Addr} {cC:Nat} {N:Nat→Nat} {C:Nat→Nat} {S:Nat→Int} {K:Nat→List Nat} {P:Nat→Nat→Nat} (hroom:∀ k,k < n→(K k).length = Tm.room (S k)):∀ (f c:Nat) (W:World),Mt.rnd n S K C f c = false→Ties W x n aN cN aC cC N C S K P →
 Calls Tryz.prog 86 #[ptr x,.int .i64 (c:Int)] W fun e w'=>BecAns W w' e (Mt.bec n S K C f c):=by
 intro f
 induction f with
 | zero=>intro c W h;simp [Mt.rnd] at h
 | succ f ih =>
  intro c W h H
  cases hy:Mt.sym n S C c with
  | none=>rw [Mt.bec_none hy];exact become_var W H c hy
  | some k =>
   rw [Mt.bec_some hy]
   exact become_sym hroom W H f c k hy (fun i hi=>Mt.bec_pos (Mt.rnd_kid hy h i hi)) fun i W' hi HW=>ih _ W' (Mt.rnd_kid hy h i hi) HW
end Go.Proofs.YtglohanbpjaieaaGreat
namespace Go.Proofs.YtglohanbpjaieaaGreat
open Go.Proofs Go.RowKit Go.Shelf Go.Maps
namespace Mt
def clL (n:Nat) (C:Nat→Nat):List Int:=(List.range n).map fun k=>(C k:Int)
theorem clL_length (n:Nat) (C:Nat→Nat):(clL n C).length = n:=by simp [clL]
theorem clL_at {n:Nat} (C:Nat→Nat) {k:Nat} (h:k < n):(clL n C)[k]?.getD 0 = (C k:Int):=by simp [clL,h]
theorem clL_congr {n:Nat} {C D:Nat→Nat} (h:∀ k,k < n→C k = D k):clL n C = clL n D:=by
 unfold clL
 exact List.map_congr_left fun k hk=>by rw [h k (List.mem_range.1 hk)]
theorem clL_set {n:Nat} {C D:Nat→Nat} {k:Nat} (h1:∀ j,j≠k→D j = C j):(clL n C).set k (D k:Int) = clL n D:=by
 refine List.ext_getElem (by rw [List.length_set,clL_length,clL_length]) fun i h2 h3=>?_
 rw [List.getElem_set]
 rw [clL_length] at h3
 by_cases e:k = i
 ·subst e;rw [if_pos rfl];simp [clL]
 ·rw [if_neg e];simp [clL,h1 i fun e2=>e e2.symm]
def mid (C:Nat→Nat) (a b k:Nat):Nat→Nat:=fun j=>if j < k then tied C a b j else C j
theorem mid_zero (C:Nat→Nat) (a b:Nat):mid C a b 0 = C:=by funext j;unfold mid;rw [if_neg (by omega)]
theorem mid_here (C:Nat→Nat) (a b k:Nat):mid C a b k k = C k:=by unfold mid;rw [if_neg (by omega)]
theorem mid_succ (C:Nat→Nat) (a b k:Nat):mid C a b (k+1) k = tied C a b k:=by unfold mid;rw [if_pos (by omega)]
theorem mid_else (C:Nat→Nat) (a b k:Nat) {j:Nat} (h:j≠k):mid C a b (k+1) j = mid C a b k j:=by
 unfold mid
 by_cases e:j < k
 ·rw [if_pos e,if_pos (by omega)]
 ·rw [if_neg e,if_neg (by omega)]
theorem mid_all (C:Nat→Nat) (a b n:Nat):clL n (mid C a b n) = clL n (tied C a b):=clL_congr fun k hk=>by unfold mid;rw [if_pos hk]
end Mt
def TiesO (W:World) (x n:Nat) (aN:Option Addr) (cN g cC:Nat) (N:Nat→Nat) (C:Nat→Nat) (S:Nat→Int) (K:Nat→List Nat) (P:Nat→Nat→Nat):Prop :=
 g < W.heap.size∧(∀ W',Keep W.heap.size g W W'→∀ C',(∀ k,k < n→W'.cell? ⟨g,k,none⟩ = some (.int .i64 (C' k:Int)))→Ties W' x n aN cN (some ⟨g,0,none⟩) cC N C' S K P)∧New 0 W (.slice (some ⟨g,0,none⟩) n cC) (Mt.clL n C)
theorem New.atG {base:Nat} {W:World} {g n c:Nat} {zs:List Int} (h:New base W (.slice (some ⟨g,0,none⟩) n c) zs) (hn:n = zs.length):(∀ j,j < n→W.cell? ⟨g,j,none⟩ = some (.int .i64 (zs[j]?.getD 0)))∧∀ j,W.frozen? ⟨g,j,none⟩ = false:=by
 by_cases h0:0 < zs.length
 ·obtain ⟨g',c',e,h1,h2⟩:=New.at0 h h0
  cases e
  exact ⟨fun j hj=>h1 j (by omega),h2⟩
 ·refine ⟨fun j hj=>by omega,fun j=>?_⟩
  rcases h.2 with ⟨e,_⟩ | ⟨g',c',cur,e,_,hg,_⟩
  ·cases e
  ·cases e
   simp [World.frozen?,hg]
theorem TiesO.ties {W:World} {x n:Nat} {aN:Option Addr} {cN g cC:Nat} {N:Nat→Nat} {C:Nat→Nat} {S:Nat→Int} {K:Nat→List Nat} {P:Nat→Nat→Nat} (h:TiesO W x n aN cN g cC N C S K P):Ties W x n aN cN (some ⟨g,0,none⟩) cC N C S K P:=by
 obtain ⟨_,h1,h2⟩:=h
 refine h1 W (Keep.refl _ _ _) C fun k hk=>?_
 rw [(New.atG h2 (Mt.clL_length n C).symm).1 k hk,Mt.clL_at C hk]
theorem TiesO.keep {W W':World} {x n:Nat} {aN:Option Addr} {cN g cC:Nat} {N:Nat→Nat} {C C':Nat→Nat} {S:Nat→Int} {K:Nat→List Nat} {P:Nat→Nat→Nat} (h:TiesO W x n aN cN g cC N C S K P) (hK:Keep W.heap.size g W W') (hN:New 0 W' (.slice (some ⟨g,0,none⟩) n cC) (Mt.clL n C')):TiesO W' x n aN cN g cC N C' S K P :=
 ⟨by have:=h.1;have:=hK.size;omega,fun W2 hK2 C2 hC2=>h.2.1 W2 (hK.trans (hK2.mono hK.size)) C2 hC2,hN⟩
set_option maxRecDepth 100000 in
set_option maxHeartbeats 1000000 in
theorem tie_any {x n:Nat} {aN:Option Addr} {cN g cC:Nat} {N:Nat→Nat} {C:Nat→Nat} {S:Nat→Int} {K:Nat→List Nat} {P:Nat→Nat→Nat} (w:World) (H:TiesO w x n aN cN g cC N C S K P) (a b:Nat) (ha:a < n) (hb:b < n) :
 Calls Tryz.prog 82 #[ptr x,.int .i64 (a:Int),.int .i64 (b:Int)] w fun e w'=>(∃ v,e = .returned v)∧Keep w.heap.size g w w'∧TiesO w' x n aN cN g cC N (Mt.tied C a b) S K P:=by
 have hT:=H.ties
 have hn:=hT.le
 have hn':(n:Int)≤5000:=by omega
 have hc1:=hT.c1
 obtain ⟨_,_,e,hca⟩:=hT.cl a ha
 cases e
 obtain ⟨_,_,e,hcb⟩:=hT.cl b hb
 cases e
 have han:(a:Int) < (n:Int):=by omega
 have hbn:(b:Int) < (n:Int):=by omega
 rw [Nat.zero_add] at hca hcb
 have HH:=hid H
 have hNew:=hid H.2.2
 clear H hT
 have HCa:Hid (∀ j,Mt.tied C a b j = if C j = C a then C b else C j):=fun j=>rfl
 generalize hfa:C a = fa at *
 generalize hfb:C b = fb at *
 clear hfa hfb
 go_enter Tryz.func82,Tryz.ntmps82
 go_wp2
 go_quiet (fail)
 go_wp2
 go_loopw [8] (fun i wr=>∃ k:Nat,k≤n∧i = .int .i64 (k:Int)∧Hid (New 0 wr (.slice (some ⟨g,0,none⟩) n cC) (Mt.clL n (Mt.mid C a b k)))∧Hid (Keep w.heap.size g w wr)) (fun i _=>n - (intOf i).toNat)
 case atStart=>exact ⟨0,Nat.zero_le _,rfl,by rw [Mt.mid_zero];exact hNew,keep_drewN (Keep.refl _ _ _) _⟩
 case round =>
  obtain ⟨k,hk,rfl,hNk,hKk⟩:=hrel
  have hO:=hid (HH.out.keep hKk.out hNk.out)
  have h1r:=hO.out.ties.c1
  by_cases hlt:k < n
  ·have hkn:(k:Int) < (n:Int):=by omega
   obtain ⟨_,_,e,hck⟩:=hO.out.ties.cl k hlt
   cases e
   rw [Nat.zero_add,Mt.mid_here] at hck
   have hfk:=(New.atG hNk.out (Mt.clL_length _ _).symm).2 k
   by_cases hC:C k = fa
   ·have heq:((C k:Int) == (fa:Int)) = true:=by rw [hC];simp
    have hD:Hid (Mt.tied C a b k = fb):=(HCa.out k).trans (if_pos hC)
    clear hC
    generalize C k = ck at *
    go_wp2
    go_roundw
    case rel =>
     refine ⟨k+1,by omega,by go_num,?_,hKk.out.trans (Keep.of_grown (grownBy_setCell1 wr g k _) hKk.out.size)⟩
     have h:=hNk.out.set (Mt.clL_length _ _).symm k (fb:Int)
     rw [← hD.out,← Mt.mid_succ,Mt.clL_set (fun j hj=>Mt.mid_else C a b k hj),Mt.mid_succ,hD.out] at h
     exact h
    case measure=>simp [intOf];omega
   ·have hne:((C k:Int) == (fa:Int)) = false:=by simp;omega
    have hD:Hid (Mt.tied C a b k = C k):=(HCa.out k).trans (if_neg hC)
    clear hC
    have hst:Hid (Mt.clL n (Mt.mid C a b (k+1)) = Mt.clL n (Mt.mid C a b k)):=Mt.clL_congr fun j _=>by
     by_cases e:j = k
     ·subst e;rw [Mt.mid_succ,hD.out,Mt.mid_here]
     ·exact Mt.mid_else C a b k e
    generalize C k = ck at *
    go_wp2
    go_roundw
    case rel=>exact ⟨k+1,by omega,by go_num,by rw [hst.out];exact hNk,hKk⟩
    case measure=>simp [intOf];omega
  ·obtain rfl:k = n:=by omega
   have hN':=hNk.out
   rw [Mt.mid_all] at hN'
   have HN':=hid hN'
   clear hN'
   go_wp2
   first | go_end0 | refine bodyPost_ret (results_none rfl _ _ _) rfl ?_
   exact ⟨⟨_,rfl⟩,hKk.out,HH.out.keep hKk.out HN'.out⟩
end Go.Proofs.YtglohanbpjaieaaGreat
