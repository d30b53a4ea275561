/-
  Parts of the proof: Prs9, Nor2.
-/
import Derived.Test.YtglohanbpjaieaaGreatBrt16
import Derived.Test.YtglohanbpjaieaaGreatBrt19
namespace Go.Proofs.YtglohanbpjaieaaGreat
open Go.Proofs Go.RowKit Go.Shelf Go.Maps
section
variable {L1 R1 L2 R2:List Int} {pass:Nat→Bool}
theorem Tm.Laps.at {n:Nat} {l:PairL} (h:Tm.Laps L1 R1 L2 R2 pass n l):∀ m,m < n→∃ l',Tm.Laps L1 R1 L2 R2 pass m l'∧(pass m = true∨(∃ val,Tm.MeetSays [(Tm.part L1 m,L2)] 0 false val)∨(∃ val,Tm.MeetSays [(Tm.part L1 m,L2)] 0 true val∧Tm.prtErr val L1 R1 (m:Int) R2 = 0)):=by
 induction h with
 | zero=>intro m hm;omega
 | @pass k l h hp ih =>
  intro m hm
  by_cases e:m = k
  ·subst e;exact ⟨l,h,.inl hp⟩
  ·exact ih m (by omega)
 | @no k l val h hp hs ih =>
  intro m hm
  by_cases e:m = k
  ·subst e;exact ⟨l,h,.inr (.inl ⟨val,hs⟩)⟩
  ·exact ih m (by omega)
 | @yes k l val h hp hs he ih =>
  intro m hm
  by_cases e:m = k
  ·subst e;exact ⟨l,h,.inr (.inr ⟨val,hs,he⟩)⟩
  ·exact ih m (by omega)
theorem Tm.Laps.one {n:Nat} {l l':PairL} (h:Tm.Laps L1 R1 L2 R2 pass n l) (h':Tm.Laps L1 R1 L2 R2 pass n l'):l = l':=by
 induction h generalizing l' with
 | zero=>cases h';rfl
 | pass h hp ih =>
  cases h' with
  | pass h2 _=>exact ih h2
  | no _ hq _=>rw [hp] at hq;cases hq
  | yes _ hq _ _=>rw [hp] at hq;cases hq
 | no h hp hs ih =>
  cases h' with
  | pass _ hq=>rw [hp] at hq;cases hq
  | no h2 _ _=>exact ih h2
  | yes _ _ hs2 _=>have:=(hs.one hs2).2.1;cases this
 | yes h hp hs he ih =>
  cases h' with
  | pass _ hq=>rw [hp] at hq;cases hq
  | no _ _ hs2=>have:=(hs.one hs2).2.1;cases this
  | yes h2 _ hs2 _ =>
   obtain ⟨_,_,rfl⟩:=hs.one hs2
   rw [ih h2]
theorem Tm.LapsSays.right {l ps:PairL} {e:Int} (h:Tm.Laps L1 R1 L2 R2 pass L1.length l) (h':Tm.LapsSays L1 R1 L2 R2 pass e ps):e = 0∧ps = l:=by
 rcases h' with ⟨rfl,h2⟩ | ⟨⟨h0,m,l',hm,hl',hp,hs⟩,rfl⟩
 ·exact ⟨rfl,h2.one h⟩
 ·obtain ⟨_,_,q | ⟨val,q⟩ | ⟨val,q,q'⟩⟩:=h.at m hm
  ·rw [hp] at q;cases q
  ·rcases hs with ⟨is,v,hs⟩ | ⟨v,hs,_⟩
   ·exact absurd (q.one hs).1.symm h0
   ·have:=(q.one hs).2.1;cases this
  ·rcases hs with ⟨is,v,hs⟩ | ⟨v,hs,he⟩
   ·exact absurd (q.one hs).1.symm h0
   ·obtain ⟨_,_,rfl⟩:=q.one hs
    rw [q'] at he
    exact absurd he.symm h0
end
end Go.Proofs.YtglohanbpjaieaaGreat
namespace Go.Proofs.YtglohanbpjaieaaGreat
open Go.Proofs Go.RowKit Go.Shelf Go.Maps
theorem Tm.n1:Tm.form groupL [4,4,0,1,0] = ([4,1,0],2,0):=by decide +kernel
theorem Tm.n2:Tm.isForm groupL [4,1,0] = true:=by decide +kernel
theorem Tm.n3:Tm.stepErr groupL [4,1,0] = 0:=by decide +kernel
theorem Tm.n4:Tm.form [([2,-1],[2,-1])] [4,-1,2,0] = ([],0,2):=by decide +kernel
theorem Tm.n5:Tm.form [([2,-1],[2,2,-1])] [4,-1,2,0] = ([],0,2):=by decide +kernel
theorem n_form (t u:List Int) (n:Nat) (k:Nat) (a:Option Addr) (w:World) (hn:n = t.length) (hl:t.length≤1000) (hI:RulesAt w.heap.size w a groupL) (h:Tm.form groupL t = (u,k,0)) :
 Calls Tryz.prog 17 #[.slice a 3 3,.slice (some ⟨w.heap.size,0,none⟩) n n] (w.alloc (.cells (t.map (Value.int .i64)).toArray 3)) fun e w'=>∃ v,e = .returned (.tuple #[v,.int .i64 (k:Int),.int .i64 0])∧New w.heap.size w' v u∧Below w.heap.size w w':=by
 subst hn
 have hB:Below w.heap.size w (w.alloc (.cells (t.map (Value.int .i64)).toArray 3)):=(Below.refl _ _).alloc (Nat.le_refl _) _
 refine (form_any groupL t a _ 3 t.length _ ((hI.below hB).mono hB.size) (ints_lit w t _ (by simp)) (Nat.le_refl _) (by unfold maxLen;omega)).mono ?_
 rintro e w' ⟨v,rfl,hN,hB'⟩
 rw [h] at hN
 exact ⟨v,by rw [h],hN.mono hB.size,hB.trans (hB'.mono hB.size)⟩
theorem n_is (t:List Int) (n:Nat) (a:Option Addr) (w:World) (hn:n = t.length) (hl:t.length≤1000) (hI:RulesAt w.heap.size w a groupL) (h1:Tm.isForm groupL t = true) (h2:Tm.stepErr groupL t = 0) :
 Calls Tryz.prog 45 #[.slice a 3 3,.slice (some ⟨w.heap.size,0,none⟩) n n] (w.alloc (.cells (t.map (Value.int .i64)).toArray 3)) fun e w'=>e = .returned (.tuple #[.bool true,.int .i64 0])∧Below w.heap.size w w':=by
 subst hn
 have hB:Below w.heap.size w (w.alloc (.cells (t.map (Value.int .i64)).toArray 3)):=(Below.refl _ _).alloc (Nat.le_refl _) _
 refine (isForm_any groupL t a _ 3 t.length _ ((hI.below hB).mono hB.size) (ints_lit w t _ (by simp)) (Nat.le_refl _) (by unfold maxLen;omega)).mono ?_
 rintro e w' ⟨rfl,hB'⟩
 exact ⟨by rw [h1,h2],hB.trans (hB'.mono hB.size)⟩
theorem n_many (rs:RuleL) (n:Nat) (a b:Option Addr) (w:World) (hn:n = rs.length) (hI:RulesAt w.heap.size w a rs) (hT:Ints w.heap.size w b [4,-1,2,0]) (h:Tm.form rs [4,-1,2,0] = ([],0,2)) :
 Calls Tryz.prog 17 #[.slice a n n,.slice b 4 4] w fun e w'=>∃ v,e = .returned (.tuple #[v,.int .i64 0,.int .i64 2])∧New w.heap.size w' v []∧Below w.heap.size w w':=by
 subst hn
 refine (form_any rs [4,-1,2,0] a b rs.length 4 w hI hT (by simp) (by unfold maxLen;omega)).mono ?_
 rintro e w' ⟨v,rfl,hN,hB'⟩
 rw [h] at hN
 exact ⟨v,by rw [h];rfl,hN,hB'⟩
end Go.Proofs.YtglohanbpjaieaaGreat
