/-
  Parts of the proof: Clo13a, Clo18, Long, Put3, Prs12, Met1, Met2, Met3.
-/
import Derived.Test.YtglohanbpjaieaaGreatBct24
import Derived.Test.YtglohanbpjaieaaGreatBct9
import Derived.Test.YtglohanbpjaieaaGreatBct2
import Derived.Test.YtglohanbpjaieaaGreatBct3
import Derived.Test.YtglohanbpjaieaaGreatBct15
import Derived.Deep.QuietTactic
import Derived.BigQuiet
import Derived.LaidEqlPtr
namespace Go.Proofs.YtglohanbpjaieaaGreat
open Go.Proofs Go.RowKit Go.Shelf Go.Maps
theorem Tm.kid_in {x:List Int} {m:Nat} {s:Int} (h:s∈Tm.kid x m):s∈x:=by
 unfold Tm.kid Tm.part at h
 exact List.mem_of_mem_drop (List.mem_of_mem_take h)
theorem Tm.in_kid {x:List Int} (h:Tm.err x = 0) {s:Int} (hs:s∈x):Tm.sym x = s∨∃ m,m < Tm.room (Tm.sym x)∧s∈Tm.kid x m:=by
 rw [Tm.view h] at hs
 rcases List.mem_cons.1 hs with e | hs
 ·exact .inl e.symm
 ·right
  rw [List.mem_flatten] at hs
  obtain ⟨l,hl,hs⟩:=hs
  obtain ⟨m,hm,rfl⟩:=List.getElem_of_mem hl
  rw [Tm.kids_len] at hm
  have e:=Tm.kids_at x hm
  rw [List.getElem?_eq_getElem (by rw [Tm.kids_len];exact hm)] at e
  rw [show (Tm.kids x (Tm.room (Tm.sym x)))[m] = Tm.kid x m from e] at hs
  exact ⟨m,hm,hs⟩
theorem Tm.Gt.vars {r:Int→Int} {a b:List Int} (h:Tm.Gt r a b):Tm.err a = 0→Tm.err b = 0→∀ s∈b,s < 0→s∈a:=by
 induction h with
 | eq a b m hm e=>intro _ _ s hs _;rw [← e] at hs;exact Tm.kid_in hs
 | sub a b m hm _ ih=>intro ha hb s hs h0;exact Tm.kid_in (ih (Tm.kid_err ha hm) hb s hs h0)
 | rk a b h1 h2 _ _ _ ih =>
  intro ha hb s hs h0
  rcases Tm.in_kid hb hs with e | ⟨m,hm,hs⟩
  ·omega
  ·exact ih m hm ha (Tm.kid_err hb hm) s hs h0
 | lex a b m h1 h2 _ _ _ _ ih _ =>
  intro ha hb s hs h0
  rcases Tm.in_kid hb hs with e | ⟨m,hm,hs⟩
  ·omega
  ·exact ih m hm ha (Tm.kid_err hb hm) s hs h0
theorem Tm.plain_rule {rk P Q:List Int} (hk:Tm.rankErr rk = 0) (eP:Tm.err P = 0) (eQ:Tm.err Q = 0) (ha:Tm.aboveVal rk P Q = true) (h0:Tm.plErr P = 0):Tm.ruleErr (Tm.plain P) (Tm.plain2 P Q) = 0∧Tm.aboveVal rk (Tm.plain P) (Tm.plain2 P Q) = true:=by
 have hg:=(Tm.aboveVal_iff (Tm.aboveErr_of hk eP eQ)).1 ha
 obtain ⟨ss,h1,h2,h3,h4,h5⟩:=Tm.plain_ren eP eQ
 have hg':=hg.stays (Terms.of h1) eP eQ
 rw [← h2,← h3] at hg'
 have hv:=hg'.vars h4 h5
 have hf:(Tm.plain P).any foreignB = false:=by
  unfold Tm.plErr at h0
  cases h:(Tm.plain P).any foreignB with
  | false=>rfl
  | true=>rw [if_pos h] at h0;exact absurd h0 (by decide)
 refine ⟨?_,(Tm.aboveVal_iff (Tm.aboveErr_of hk h4 h5)).2 hg'⟩
 have hf2:(Tm.plain2 P Q).any foreignB = false:=by
  rw [List.any_eq_false] at hf ⊢
  intro s hs hfs
  have h0:s < -4:=by simpa [foreignB] using hfs
  exact hf s (hv s hs (by omega)) hfs
 have hf3:(Tm.plain2 P Q).any (freeIn (Tm.plain P)) = false:=by
  rw [List.any_eq_false]
  intro s hs hfs
  unfold freeIn at hfs
  rw [Bool.and_eq_true] at hfs
  have h0:s < 0:=by simpa using hfs.1
  have:=hv s hs h0
  simp [Tm.hasB,this] at hfs
 have hp:(0:Int)≤(Tm.plain P)[0]?.getD 0:=hg'.pos
 unfold Tm.ruleErr
 rw [if_pos h4,if_pos h5,if_neg (by rw [hf];decide),if_neg (by rw [hf2];decide),if_neg (by omega),if_neg (by rw [hf3];decide)]
theorem Tm.firstRule_of {rs:RuleL} (h:∀ x∈rs,Tm.ruleErr x.1 x.2 = 0):Tm.firstRule rs = 0:=by
 induction rs with
 | nil=>rfl
 | cons r l ih =>
  rw [Tm.firstRule,if_pos (h r (by simp))]
  exact ih fun x hx=>h x (by simp [hx])
theorem Tm.own_both {rk P Q:List Int} (hk:Tm.rankErr rk = 0) (eP:Tm.err P = 0) (eQ:Tm.err Q = 0) (ha:Tm.aboveVal rk P Q = true):(Tm.plain P++Tm.plain2 P Q).any foreignB = (Tm.plain P).any foreignB:=by
 have hg:=(Tm.aboveVal_iff (Tm.aboveErr_of hk eP eQ)).1 ha
 obtain ⟨ss,h1,h2,h3,h4,h5⟩:=Tm.plain_ren eP eQ
 have hg':=hg.stays (Terms.of h1) eP eQ
 rw [← h2,← h3] at hg'
 have hv:=hg'.vars h4 h5
 rw [List.any_append]
 cases h:(Tm.plain P).any foreignB with
 | true=>rfl
 | false =>
  rw [Bool.false_or,List.any_eq_false]
  rw [List.any_eq_false] at h
  intro s hs hfs
  have h0:s < -4:=by simpa [foreignB] using hfs
  exact h s (hv s hs (by omega)) hfs
theorem Tm.own_plErr {rk P Q:List Int} (hk:Tm.rankErr rk = 0) (eP:Tm.err P = 0) (eQ:Tm.err Q = 0) (ha:Tm.aboveVal rk P Q = true):Tm.plErr P = if (Tm.plain P++Tm.plain2 P Q).any foreignB = true then 3 else 0:=by
 rw [Tm.own_both hk eP eQ ha]
 rfl
set_option maxRecDepth 100000 in
set_option maxHeartbeats 1000000 in
theorem applied_long (ss:List (List Int)) (hl:ss.length = 8) (hsh:Short ss) (a:Option Addr) (cap:Nat) (t:List Int) (at':Option Addr) (ct:Nat) (ht:t.length≤100) (h8:∀ k,k < t.length→-8≤t[k]?.getD 0) (w:World)
 (hS:Subs w.heap.size w a ss) (hT:Ints w.heap.size w at' t) :
 Calls Tryz.prog 114 #[.slice a 8 cap,.slice at' t.length ct] w fun e w'=>∃ v,e = .returned v∧New w.heap.size w' v (Tm.applied ss t)∧Below w.heap.size w w':=by
 have hlen:(t.length:Int)≤100:=by omega
 obtain ⟨bs,os,rfl,hbs,hcs⟩:=hS.at (by omega)
 have Hcs:=hid hcs
 have HT:=hid hT
 have H8:=hid h8
 have Hl:=hid hl
 clear hcs hS hT h8 hl
 go_enter Tryz.func114,Tryz.ntmps114
 go_wp2
 go_loopw [5,6] (fun v i wr=>∃ k:Nat,k≤t.length∧i = .int .i64 (k:Int)∧New w.heap.size wr v (Tm.applied ss (t.take k))∧Below w.heap.size w wr) (fun _ i _=>t.length - (intOf i).toNat)
 case atStart=>exact ⟨0,Nat.zero_le _,rfl,New.nil _ _,Below.refl _ _⟩
 case round =>
  obtain ⟨k,hk,rfl,hN,hBr⟩:=hrel
  by_cases hlt:k < t.length
  ·have hlt':(k:Int) < (t.length:Int):=by omega
   obtain ⟨b,off,rfl,hb,hc⟩:=HT.out.at (by omega)
   have hck:=(hBr.cell (p:=⟨b,off+k,none⟩) hb).trans (hc k hlt)
   have hsn:=hid (Tm.applied_snoc ss hlt)
   have hle:=Tm.applied_le hsh (t.take k)
   rw [List.length_take] at hle
   have hpl:=Tm.piece_le hsh (t[k]?.getD 0)
   have hs8:=H8.out k hlt
   clear hc
   obtain ⟨a0,c0,rfl,_⟩:=New.ints hN
   by_cases hneg:t[k]?.getD 0 < 0
   ·obtain ⟨j,hj⟩:∃ j:Nat,t[k]?.getD 0 = -1 - (j:Int):=⟨(-1 - (t[k]?.getD 0)).toNat,by omega⟩
    have hj8:(j:Int) < 8:=by omega
    obtain ⟨aj,cj,hcj0,hIj0,h1,h2,h3⟩:=Hcs.out j (by rw [Hl.out];omega)
    have hcj:=(hBr.cell (p:=⟨bs,os+j,none⟩) hbs).trans hcj0
    have hIj:=(hIj0.below hBr).mono hBr.size
    have hpc:Tm.piece ss (t[k]?.getD 0) = ss[j]?.getD []:=by
     rw [hj]
     unfold Tm.piece
     rw [if_pos (by omega)]
     congr 2
     omega
    rw [hpc] at hsn hpl
    rw [hj] at hck
    have H3:Hid (aj = none→(ss[j]?.getD []).length = 0∧cj = 0):=fun e=>⟨by have:=h3 e;omega,h3 e⟩
    clear hcj0 hIj0 hpc hj hneg hs8 h3 h1 h2
    generalize ss[j]?.getD [] = pc at *
    generalize Tm.applied ss (t.take k) = xs at *
    have hn1:(-1 - (j:Int)) < 0:=by omega
    have hn2:-(-1 - (j:Int)) - 1 = (j:Int):=by omega
    go_wp2_with (at_builtin;go_loud (refine wp_append_ints _ rfl _ _ rfl w.heap.size _ xs rfl hN aj pc cj rfl H3.out hIj (by omega) hBr.size ?_);intro v' w2 hN2 hB3;obtain ⟨a2,c2,rfl,_⟩:=New.ints hN2)
    go_roundw
    case rel=>exact ⟨k+1,by omega,by go_num,by rw [hsn.out];simpa using hN2,hBr.trans hB3⟩
    case measure=>simp [intOf];omega
   ·have hpc:Tm.piece ss (t[k]?.getD 0) = [t[k]?.getD 0]:=by unfold Tm.piece;rw [if_neg hneg]
    rw [hpc] at hsn
    clear hpc hpl hs8
    generalize t[k]?.getD 0 = s at *
    generalize Tm.applied ss (t.take k) = xs at *
    have h1:=ints_lit wr [s] _ rfl
    simp only [List.map_cons,List.map_nil] at h1
    have hA:Below wr.heap.size wr (wr.alloc (.cells #[.int .i64 s] 3)):=(Below.refl _ _).alloc (Nat.le_refl _) _
    have hNA:=New.below hN hA
    have hBA:=hBr.trans (hA.mono hBr.size)
    go_wp2_with (at_builtin;go_loud (refine wp_append_ints _ rfl _ _ rfl w.heap.size _ xs rfl hNA (some ⟨wr.heap.size,0,none⟩) [s] 1 rfl (fun e=>by cases e) (by simpa using h1) (by simp;omega) hBA.size ?_);intro v' w2 hN2 hB3;obtain ⟨a2,c2,rfl,_⟩:=New.ints hN2)
    go_roundw
    case rel=>exact ⟨k+1,by omega,by go_num,by rw [hsn.out];simpa using hN2,hBA.trans hB3⟩
    case measure=>simp [intOf];omega
  ·obtain rfl:k = t.length:=by omega
   rw [List.take_length] at hN
   obtain ⟨a2,c2,rfl,_⟩:=New.ints hN
   go_wp2
   go_ret
   exact ⟨_,rfl,hN,hBr⟩
set_option maxRecDepth 100000 in
set_option maxHeartbeats 2000000 in
theorem refplain_long (t:List Int) (at':Option Addr) (ct:Nat) (w:World) (ht:t.length≤100) (h0:0 < t.length) (h8:∀ k,k < t.length→-8≤t[k]?.getD 0) (hT:Ints w.heap.size w at' t) :
 Calls Tryz.prog 95 #[.slice at' t.length ct] w fun e w'=>∃ v,e = .returned v∧New w.heap.size w' v (Tm.plain t)∧Below w.heap.size w w':=by
 have hlen:(t.length:Int)≤100:=by omega
 obtain ⟨b,off,rfl,hb,hc⟩:=hT.at h0
 have hl:New w.heap.size (w.alloc (.cells #[] 3)) (.slice (some ⟨w.heap.size,0,none⟩) 0 0) []:=New.lit w.heap.size w [] (Nat.le_refl _) (by unfold maxLen;simp)
 have hB0:Below w.heap.size w (w.alloc (.cells #[] 3)):=(Below.refl _ _).alloc (Nat.le_refl _) _
 have HT:=hid hT
 have Hc:=hid hc
 have H8:=hid h8
 clear hT hc h8
 go_enter Tryz.func95,Tryz.ntmps95
 go_wp2_with (at_builtin;go_loud (refine wp_append_ints _ rfl (.tmp 8) (.tmp 9) rfl w.heap.size _ [] rfl hl _ t ct rfl (fun e=>by cases e) ((HT.out.below hB0).mono hB0.size) (by simp;omega) hB0.size ?_);intro v1 W1 hN1 hB1;obtain ⟨g,c,rfl,_⟩:=New.at0 hN1 (by simpa using h0))
 have hB2:=hB0.trans hB1
 clear hB0 hB1 hl
 simp only [List.nil_append] at *
 have hgl:=hN1.own_lt.2
 have hB2s:=hB2.size
 go_loopw [3,5] (fun vs i wr=>∃ k:Nat,k≤t.length∧i = .int .i64 (k:Int)∧Hid (PlainSt w W1 t g t.length c k vs wr)) (fun _ i _=>t.length - (intOf i).toNat)
 case atStart=>exact ⟨0,Nat.zero_le _,rfl,New.nil _ _,by rw [Tm.half_zero];exact hN1,hB2,Nat.le_refl _⟩
 case round =>
  clear hN1 hB2
  obtain ⟨k,hk,rfl,hP⟩:=hrel
  by_cases hlt:k < t.length
  ·have hlt':(k:Int) < (t.length:Int):=by omega
   have hck:=(hP.out.2.2.1.cell (p:=⟨b,off+k,none⟩) hb).trans (Hc.out k hlt)
   by_cases hneg:t[k]?.getD 0 < 0
   ·have hsl:=Tm.seen_len (t.take k) []
    rw [List.length_take] at hsl
    simp only [List.length_nil,Nat.zero_add] at hsl
    have hnd:=hid (Tm.seen_nodup (t.take k) [] List.nodup_nil)
    have hse:=hid (Tm.seen_succ [] hlt)
    have hnm:Hid (Tm.name (Tm.seenFrom [] (t.take k)) (t[k]?.getD 0) = -1 - (Tm.idx (Tm.seenFrom [] (t.take k)) (t[k]?.getD 0):Int)):=by
     show _ = _
     unfold Tm.name
     rw [if_pos hneg]
    have hst:Hid (∀ (vs':Value) (w':World) (x:Int),New W1.heap.size w' vs' (Tm.seenFrom [] (t.take (k+1)))→New w.heap.size w' (.slice (some ⟨g,0,none⟩) t.length c) (Tm.half t k)→Below w.heap.size w w'→W1.heap.size≤w'.heap.size →
     x = Tm.name (Tm.seenFrom [] (t.take k)) (t[k]?.getD 0)→PlainSt w W1 t g t.length c (k+1) vs' (w'.setCell ⟨g,k,none⟩ (.int .i64 x))) :=
     fun vs' w' x a1 a2 a3 a4 a5=>PlainSt.store hgl rfl hlt a1 a2 a3 a4 x a5
    obtain ⟨p1,p2,p3,p4⟩:=hP.out
    have Hhl:Hid ((Tm.half t k).length = t.length):=Tm.half_length hk
    clear hP
    generalize Tm.name (Tm.seenFrom [] (t.take k)) (t[k]?.getD 0) = nm at *
    generalize Tm.seenFrom [] (t.take (k+1)) = seen' at *
    generalize Tm.seenFrom [] (t.take k) = seen at *
    generalize Tm.half t k = hf at *
    generalize t[k]?.getD 0 = s at *
    obtain ⟨az,cs,rfl,hIs,hcs,_⟩:=New.ints p1
    have HIs:=hid hIs
    have hsl':(seen.length:Int)≤100:=by omega
    clear hIs hcs
    go_wp2
    go_loopw [6,7] (fun q i wq=>∃ (m d:Nat),m≤seen.length∧i = .int .i64 (m:Int)∧wq = wr.drewN d∧((q = .int .i64 (-1)∧Hid (∀ j,j < m→seen[j]?.getD 0≠s))∨∃ j:Nat,j < m∧q = .int .i64 (j:Int)∧Hid (seen[j]?.getD 0 = s))) (fun _ i _=>seen.length - (intOf i).toNat)
    case atStart=>exact ⟨0,0,Nat.zero_le _,rfl,rfl,.inl ⟨rfl,fun j hj=>by omega⟩⟩
    case round =>
     obtain ⟨m,d,hm,rfl,rfl,hq⟩:=hrel
     by_cases hml:m < seen.length
     ·have hml':(m:Int) < (seen.length:Int):=by omega
      obtain ⟨gs,os,rfl,hbs,hcs⟩:=HIs.out.at (by omega)
      have hcm:=hcs m hml
      have hnn:=hid (show seen[m]?.getD 0≠s→(∀ j,j < m→seen[j]?.getD 0≠s)→∀ j,j < m+1→seen[j]?.getD 0≠s from fun e1 e2 j hj=>by
       by_cases e:j = m
       ·subst e;exact e1
       ·exact e2 j (by omega))
      clear hcs
      obtain ⟨y,hy⟩:∃ y,seen[m]?.getD 0 = y:=⟨_,rfl⟩
      rw [hy] at hcm
      have Hy:=hid hy
      clear hy
      by_cases he:y = s
      ·have hn:(y == s) = true:=by simp [he]
       have hyy':Hid (seen[m]?.getD 0 = s):=Hy.out.trans he
       clear he hnn hq
       go_wp2
       go_quiet (fail)
       go_wp2
       go_roundw
       case rel=>exact ⟨m+1,_,by omega,by go_num,rfl,.inr ⟨m,by omega,rfl,hyy'⟩⟩
       case measure=>simp [intOf];omega
      ·have hn:(y == s) = false:=by simp [he]
       have hnn':Hid ((∀ j,j < m→seen[j]?.getD 0≠s)→∀ j,j < m+1→seen[j]?.getD 0≠s):=hnn.out (by rw [Hy.out];exact he)
       clear he hnn
       rcases hq with ⟨rfl,hno⟩ | ⟨j,hj,rfl,hyes⟩
       ·go_wp2
        go_quiet (fail)
        go_wp2
        go_roundw
        case rel=>exact ⟨m+1,_,by omega,by go_num,rfl,.inl ⟨rfl,hnn'.out hno.out⟩⟩
        case measure=>simp [intOf];omega
       ·go_wp2
        go_quiet (fail)
        go_wp2
        go_roundw
        case rel=>exact ⟨m+1,_,by omega,by go_num,rfl,.inr ⟨j,by omega,rfl,hyes⟩⟩
        case measure=>simp [intOf];omega
     ·obtain rfl:m = seen.length:=by omega
      have q1:=New.drewN p1 d
      have q2:=New.drewN p2 d
      have q3:=below_drewN p3 d
      have q4:W1.heap.size≤(wr.drewN d).heap.size:=p4
      obtain ⟨g',c',e',hcg,hfg⟩:=New.at0 q2 (by rw [Hhl.out];exact h0)
      have hgc:=hcg k (by rw [Hhl.out];exact hlt)
      have hfk:=hfg k
      have e'':g = g':=by simp only [Value.slice.injEq,Option.some.injEq,Addr.mk.injEq] at e';exact e'.1.1
      subst e''
      have hckd:(wr.drewN d).cell? ⟨b,off+k,none⟩ = some (.int .i64 s):=hck
      clear hcg hfg e' hck p1 p2 p3 p4
      generalize hx:hf[k]?.getD 0 = x0 at *
      clear hx
      generalize wr.drewN d = W2 at *
      rcases hq with ⟨rfl,hno⟩ | ⟨j,hj,rfl,hyes⟩
      ·have hnot:=Tm.has_not hno.out
       have hnew:=hid (Tm.see_new hneg hnot)
       have hnm':Hid (nm = -1 - (seen.length:Int)):=by
        show _ = _
        rw [hnm.out,Tm.idx_new hnot]
       have hse':=hid (hse.out.trans hnew.out)
       have hA:Below W2.heap.size W2 (W2.alloc (.cells #[.int .i64 s] 3)):=(Below.refl _ _).alloc (Nat.le_refl _) _
       have Hq1:=hid (q1.alloc (.cells #[.int .i64 s] 3))
       have hq2A:=q2.alloc (.cells #[.int .i64 s] 3)
       have hq3A:=q3.trans (hA.mono q3.size)
       have hq4A:W1.heap.size≤(W2.alloc (.cells #[.int .i64 s] 3)).heap.size:=by simp;omega
       have Hcn:=hid (cell_new W2 (.int .i64 s) 3 W2.heap.size rfl)
       clear hnot hnew hno hnd q1 q2 q3 hgc hfk
       go_wp2_with (at_builtin;go_loud (refine wp_append_int1 _ rfl _ _ rfl W1.heap.size _ seen rfl Hq1.out W2.heap.size s rfl Hcn.out (by omega) hq4A ?_);intro v' w5 hN5 hg5 hB5;have r2:New w.heap.size w5 (.slice (some ⟨g,0,none⟩) t.length c) hf:=World.ownsRow.kept hq2A hg5 (.inr (fun e=>by have:=(World.ownsRow.lt Hq1.out g e.symm).1;omega));obtain ⟨g',c',e',hcg,hfg⟩:=New.at0 r2 (by rw [Hhl.out];exact h0);have hgc:=hcg k (by rw [Hhl.out];exact hlt);have hfk:=hfg k;have e'':g = g':=(by simp only [Value.slice.injEq,Option.some.injEq,Addr.mk.injEq] at e';exact e'.1.1);subst e'';clear hcg hfg e';obtain ⟨a5,c5,rfl,_⟩:=New.ints hN5)
       go_roundw
       case rel=>exact ⟨k+1,by omega,by go_num,hst.out _ _ _ (by rw [hse'.out];simpa using hN5) r2 (hq3A.trans (hB5.mono (by have:=hB2s;omega))) (Nat.le_trans hq4A hB5.size) hnm'.out.symm⟩
       case measure=>simp [intOf];omega
      ·have hidx:=Tm.idx_at hnd.out hj hyes.out
       have hold:=hid (Tm.see_old (Tm.has_at hj hyes.out))
       have hnm':Hid (nm = -1 - (j:Int)):=by
        show _ = _
        rw [hnm.out,hidx]
       have hse':=hid (hse.out.trans hold.out)
       have hj30:(j:Int)≤100:=by omega
       have hjn:¬ (j:Int) < 0:=by omega
       clear hidx hold hyes hnd
       go_wp2
       go_roundw
       case rel=>exact ⟨k+1,by omega,by go_num,hst.out _ _ _ (by rw [hse'.out];exact q1) q2 q3 q4 hnm'.out.symm⟩
       case measure=>simp [intOf];omega
   ·have hP':=hid (hP.out.same hlt (by omega))
    clear hP
    generalize t[k]?.getD 0 = s at *
    go_wp2
    go_roundw
    case rel=>exact ⟨k+1,by omega,by go_num,hP'.out⟩
    case measure=>simp [intOf];omega
  ·obtain rfl:k = t.length:=by omega
   obtain ⟨_,p2,p3,_⟩:=hP.out
   rw [Tm.half_all] at p2
   clear hP
   go_wp2
   go_ret
   exact ⟨_,rfl,p2,p3⟩
end Go.Proofs.YtglohanbpjaieaaGreat
namespace Go.Proofs.YtglohanbpjaieaaGreat
open Go.Proofs Go.RowKit Go.Shelf
set_option maxRecDepth 100000 in
set_option maxHeartbeats 400000 in
theorem refput_long (zs us:List Int) (a au:Option Addr) (cap cu j:Nat) (w:World) (hI:Ints w.heap.size w a zs) (hU:Ints w.heap.size w au us) (hcap:zs.length≤cap) (hcap2:cap≤maxLen) (he:Tm.err zs = 0) (hu30:us.length≤1000) (hup:0 < us.length) (hj:j < zs.length) :
 Calls Tryz.prog 113 #[.slice a zs.length cap,.int .i64 (j:Int),.slice au us.length cu] w fun e w'=>∃ v,e = .returned v∧New w.heap.size w' v (Tm.put zs j us)∧Below w.heap.size w w':=by
 have h30:=Tm.err_len he
 have hei:=Tm.end_in he hj
 have heg:=Tm.endAt_gt zs j
 have hUs:=hid (hU.some hup)
 obtain ⟨b,off,rfl,hb,_⟩:=hI.at (by omega)
 have hB0:Below w.heap.size w (w.alloc (.cells #[] 3)):=(Below.refl _ _).alloc (Nat.le_refl _) _
 have hl:New w.heap.size (w.alloc (.cells #[] 3)) (.slice (some ⟨w.heap.size,0,none⟩) 0 0) []:=New.lit w.heap.size w [] (Nat.le_refl _) (by unfold maxLen;simp)
 have hE:∀ W,Below w.heap.size w W→Calls Tryz.prog 120 #[.slice (some ⟨b,off,none⟩) zs.length cap,.int .i64 (j:Int)] W fun e w'=>e = .returned (.int .i64 (Tm.endAt zs j:Int))∧Below W.heap.size W w' :=
  fun W hW=>endOf_any zs (some ⟨b,off,none⟩) cap j W ((hI.below hW).mono hW.size) hcap hcap2 he hj
 have HE:=hid (hE)
 have HU:=hid (hU)
 have HI:=hid (hI)
 have hput:Tm.put zs j us = []++zs.take j++us++zs.drop (Tm.endAt zs j):=by simp [Tm.put]
 rw [hput]
 have htl:(zs.take j).length = j:=by rw [List.length_take];omega
 have hdl:(zs.drop (Tm.endAt zs j)).length = zs.length - Tm.endAt zs j:=by rw [List.length_drop]
 have HT:=hid (hI.take j)
 have HD:Hid (∀ n X,Ints n X (some ⟨b,off,none⟩) zs→∀ c,Ints n X (if c = 0 then some ⟨b,off,none⟩ else some ⟨b,off+Tm.endAt zs j,none⟩) (zs.drop (Tm.endAt zs j))∨(c = 0∧zs.drop (Tm.endAt zs j)≠[])):=by
  intro n X hX c
  by_cases hc:c = 0
  ·by_cases hd:zs.drop (Tm.endAt zs j) = []
   ·left;rw [hd];exact Ints.nil _ _ _
   ·right;exact ⟨hc,hd⟩
  ·left;rw [if_neg hc];exact hX.drop _
 have Htl:=hid (htl)
 have Hdl:=hid (hdl)
 unfold maxLen at hcap2
 clear hE hU hI hput htl hdl he hup
 generalize Tm.endAt zs j = q at *
 generalize hxs:zs.take j = xs at *
 generalize hys:zs.drop q = ys at *
 clear hxs hys
 have h1:(j:Int)≤(cap:Int):=by omega
 have h2:(q:Int)≤(zs.length:Int):=by omega
 have h3:(zs.length:Int)≤(cap:Int):=by omega
 have h4:(zs.length:Int)≤30:=by omega
 by_cases hz:cap - q = 0
 ·have hys0:ys = []:=List.eq_nil_of_length_eq_zero (by rw [Hdl.out];omega)
  obtain ⟨rfl,rfl⟩:zs.length = cap∧q = zs.length:=by omega
  clear HD
  go_enter Tryz.func113,Tryz.ntmps113
  go_wp2_with (first
   | (at_builtin;refine wp_append_ints _ rfl (.tmp 7) (.tmp 10) rfl w.heap.size _ [] rfl hl (some ⟨b,off,none⟩) xs zs.length (by rw [Htl.out];rfl) (fun h=>by cases h) ((HT.out.below hB0).mono hB0.size) (by rw [Htl.out];simp;omega) hB0.size ?_;intro v1 w1 hN1 hB1;have hB01:=hB0.trans hB1;clear hB1)
   | (at_builtin;refine wp_append_ints _ rfl (.tmp 11) (.tmp 12) rfl w.heap.size _ _ rfl hN1 au us _ rfl (fun h=>absurd h hUs.out) ((HU.out.below hB01).mono hB01.size) (by rw [List.length_append,Htl.out];simp;omega) hB01.size ?_;intro v2 w2 hN2 hB2;have hB02:=hB01.trans hB2;clear hB2)
   | (go_at_call 120;refine (HE.out _ hB02).mono ?_;rintro e w3 ⟨rfl,hB3⟩;have hN3:=New.below hN2 hB3;have hB03:=hB02.trans (hB3.mono hB02.size);clear hB3)
   | (at_builtin;go_loud (refine wp_append_ints _ rfl (.tmp 13) (.tmp 18) rfl w.heap.size _ _ rfl hN3 (some ⟨b,off,none⟩) ys 0 (by rw [hys0];rfl) (fun h=>by cases h) (by rw [hys0];exact Ints.nil _ _ _) (by rw [List.length_append,List.length_append,Htl.out,Hdl.out];simp;omega) hB03.size ?_);intro v4 w4 hN4 hB4))
  obtain ⟨a4,c4,rfl,_⟩:=New.ints hN4
  go_ret
  exact ⟨_,rfl,hN4,hB03.trans hB4⟩
 ·have HY:Hid (∀ n X,Ints n X (some ⟨b,off,none⟩) zs→Ints n X (some ⟨b,off+q,none⟩) ys):=fun n X hX=>by
   rcases HD.out n X hX 1 with h | h
   ·simpa using h
   ·exact absurd h.1 (by decide)
  clear HD
  go_enter Tryz.func113,Tryz.ntmps113
  go_wp2_with (first
   | (at_builtin;refine wp_append_ints _ rfl (.tmp 7) (.tmp 10) rfl w.heap.size _ [] rfl hl (some ⟨b,off,none⟩) xs cap (by rw [Htl.out];rfl) (fun h=>by cases h) ((HT.out.below hB0).mono hB0.size) (by rw [Htl.out];simp;omega) hB0.size ?_;intro v1 w1 hN1 hB1;have hB01:=hB0.trans hB1;clear hB1)
   | (at_builtin;refine wp_append_ints _ rfl (.tmp 11) (.tmp 12) rfl w.heap.size _ _ rfl hN1 au us _ rfl (fun h=>absurd h hUs.out) ((HU.out.below hB01).mono hB01.size) (by rw [List.length_append,Htl.out];simp;omega) hB01.size ?_;intro v2 w2 hN2 hB2;have hB02:=hB01.trans hB2;clear hB2)
   | (go_at_call 120;refine (HE.out _ hB02).mono ?_;rintro e w3 ⟨rfl,hB3⟩;have hN3:=New.below hN2 hB3;have hB03:=hB02.trans (hB3.mono hB02.size);clear hB3)
   | (at_builtin;go_loud (refine wp_append_ints _ rfl (.tmp 13) (.tmp 18) rfl w.heap.size _ _ rfl hN3 (some ⟨b,off+q,none⟩) ys (cap - q) (by rw [Hdl.out];rfl) (fun h=>by cases h) (HY.out _ _ ((HI.out.below hB03).mono hB03.size)) (by rw [List.length_append,List.length_append,Htl.out,Hdl.out];simp;omega) hB03.size ?_);intro v4 w4 hN4 hB4))
  obtain ⟨a4,c4,rfl,_⟩:=New.ints hN4
  go_ret
  exact ⟨_,rfl,hN4,hB03.trans hB4⟩
end Go.Proofs.YtglohanbpjaieaaGreat
namespace Go.Proofs.YtglohanbpjaieaaGreat
open Go.Proofs Go.RowKit Go.Shelf Go.Maps
theorem Sn.both (X Y:List Int):Tm.plain X++Tm.plain2 X Y = Tm.plainTo [] (X++Y) (X++Y).length:=by
 obtain ⟨r,hr⟩:=Sn.seen_pre Y (Tm.seenFrom [] X)
 have h1:=Sn.plain_map X [] r
 have h2:=Sn.plain_map Y (Tm.seenFrom [] X) []
 have h3:=Sn.plain_map (X++Y) [] []
 rw [← hr] at h1
 rw [List.append_nil] at h2 h3
 rw [Sn.seen_app] at h3
 show Tm.plainTo [] X X.length++Tm.plainTo (Tm.seenFrom [] X) Y Y.length = _
 rw [h1,h2,h3,List.map_append]
end Go.Proofs.YtglohanbpjaieaaGreat
namespace Go.Proofs.YtglohanbpjaieaaGreat
open Go.Proofs Go.RowKit Go.Shelf Go.Maps
namespace Mt
open Wb (App TermSb Same Sb App_cons App_flatten)
structure Gph (n:Nat) (S:Nat→Int) (K:Nat→List Nat) (Z:Nat→List Int):Prop where
 known:∀ k,k < n→-8≤S k∧S k < 6
 room:∀ k,k < n→(K k).length = Tm.room (S k)
 kids:∀ k,k < n→∀ i∈K k,i < n
 sign:∀ k,k < n→Z k = S k :: ((K k).map Z).flatten
 vars:∀ i j,i < n→j < n→S i < 0→S i = S j→i = j
theorem mem_len {l:List (List Int)} {x:List Int} (h:x∈l):x.length≤l.flatten.length:=by
 induction l with
 | nil=>simp at h
 | cons y l ih =>
  rw [List.flatten_cons,List.length_append]
  rcases List.mem_cons.1 h with e | h
  ·subst e;omega
  ·have:=ih h;omega
theorem Gph.kid_len {n:Nat} {S:Nat→Int} {K:Nat→List Nat} {Z:Nat→List Int} (G:Gph n S K Z) {k i:Nat} (hk:k < n) (hi:i∈K k):(Z i).length < (Z k).length:=by
 rw [G.sign k hk,List.length_cons]
 have:=mem_len (List.mem_map_of_mem (f:=Z) hi)
 omega
theorem run_kids {l:List (List Int)} (h:∀ x∈l,Tm.run x 1 = x.length):Tm.run l.flatten l.length = l.flatten.length :=
 Tm.run_flatten l fun j hj=>by
  rw [List.getElem?_eq_getElem hj]
  exact h _ (List.getElem_mem hj)
theorem Gph.run {n:Nat} {S:Nat→Int} {K:Nat→List Nat} {Z:Nat→List Int} (G:Gph n S K Z):∀ (m k:Nat),(Z k).length≤m→k < n→Tm.run (Z k) 1 = (Z k).length:=by
 intro m
 induction m with
 | zero=>intro k h hk;rw [G.sign k hk,List.length_cons] at h;omega
 | succ m ih =>
  intro k h hk
  have e:=G.sign k hk
  have hr:Tm.run ((K k).map Z).flatten ((K k).map Z).length = ((K k).map Z).flatten.length:=run_kids fun x hx=>by
   obtain ⟨i,hi,rfl⟩:=List.mem_map.1 hx
   exact ih i (by have:=G.kid_len hk hi;omega) (G.kids k hk i hi)
  rw [List.length_map,G.room k hk] at hr
  rw [e,show (1:Nat) = 0+1 from rfl,Tm.run_cons,Nat.zero_add,hr,List.length_cons]
  omega
theorem Gph.app {n:Nat} {S:Nat→Int} {K:Nat→List Nat} {Z:Nat→List Int} (G:Gph n S K Z) (θ:Sb) {k:Nat} (hk:k < n) (hs:0≤S k):App θ (Z k) = S k :: ((K k).map fun i=>App θ (Z i)).flatten:=by
 rw [G.sign k hk,App_cons,if_neg (by omega),App_flatten,List.map_map]
 rfl
theorem Gph.var {n:Nat} {S:Nat→Int} {K:Nat→List Nat} {Z:Nat→List Int} (G:Gph n S K Z) {k:Nat} (hk:k < n) (hs:S k < 0):K k = []∧Z k = [S k]:=by
 have h:=G.room k hk
 rw [Wb.room_var hs] at h
 have e:=List.eq_nil_of_length_eq_zero h
 exact ⟨e,by rw [G.sign k hk,e];rfl⟩
theorem Gph.eq {n:Nat} {S:Nat→Int} {K:Nat→List Nat} {Z:Nat→List Int} (G:Gph n S K Z) {θ:Sb} (hθ:TermSb θ) {p q:Nat} (hp:p < n) (hq:q < n) (sp:0≤S p) (sq:0≤S q) (h:App θ (Z p) = App θ (Z q)) :
 S p = S q∧∀ i,i < Tm.room (S p)→App θ (Z ((K p)[i]?.getD 0)) = App θ (Z ((K q)[i]?.getD 0)):=by
 rw [G.app θ hp sp,G.app θ hq sq] at h
 obtain ⟨e,h2⟩:=List.cons.inj h
 have hrun:∀ r,r < n→∀ x∈(K r).map (fun k=>App θ (Z k)),Tm.run x 1 = x.length:=fun r hr x hx=>by
  obtain ⟨i,hi,rfl⟩:=List.mem_map.1 hx
  exact Wb.App_run hθ _ 1 (G.run _ i (Nat.le_refl _) (G.kids r hr i hi))
 have h3:=Wb.flatten_inj _ _ (hrun p hp) (hrun q hq) (by rw [List.length_map,List.length_map,G.room p hp,G.room q hq,e]) h2
 refine ⟨e,fun i hi=>?_⟩
 have h4:=congrArg (fun l:List (List Int)=>l[i]?.getD []) h3
 simp only [List.getElem?_map] at h4
 have l1:i < (K p).length:=by rw [G.room p hp];exact hi
 have l2:i < (K q).length:=by rw [G.room q hq,← e];exact hi
 rw [List.getElem?_eq_getElem l1,List.getElem?_eq_getElem l2] at h4 ⊢
 exact h4
def Resp (n:Nat) (Z:Nat→List Int) (C:Nat→Nat) (θ:Sb):Prop:=∀ i j,i < n→j < n→C i = C j→App θ (Z i) = App θ (Z j)
def tied (C:Nat→Nat) (a b:Nat):Nat→Nat:=fun k=>if C k = C a then C b else C k
theorem tied_same (C:Nat→Nat) (a b:Nat):tied C a b a = tied C a b b:=by
 unfold tied
 rw [if_pos rfl]
 by_cases e:C b = C a
 ·rw [if_pos e]
 ·rw [if_neg e]
theorem tied_mono {C:Nat→Nat} {i j:Nat} (a b:Nat) (h:C i = C j):tied C a b i = tied C a b j:=by unfold tied;rw [h]
theorem Resp.tie {n:Nat} {Z:Nat→List Int} {C:Nat→Nat} {θ:Sb} (R:Resp n Z C θ) {a b:Nat} (ha:a < n) (hb:b < n) (h:App θ (Z a) = App θ (Z b)):Resp n Z (tied C a b) θ:=fun i j hi hj e=>by
 unfold tied at e
 by_cases h1:C i = C a
 ·rw [if_pos h1] at e
  by_cases h2:C j = C a
  ·rw [R i a hi ha h1,R j a hj ha h2]
  ·rw [if_neg h2] at e
   rw [R i a hi ha h1,h,R b j hb hj e]
 ·rw [if_neg h1] at e
  by_cases h2:C j = C a
  ·rw [if_pos h2] at e
   rw [R i b hi hb e,← h,R j a hj ha h2]
  ·rw [if_neg h2] at e
   exact R i j hi hj e
def cls (n:Nat) (C:Nat→Nat):Nat:=((List.range n).filter fun c=>(List.range n).any fun k=>C k == c).length
theorem used_iff {n:Nat} {C:Nat→Nat} {c:Nat}:((List.range n).any fun k=>C k == c) = true ↔ ∃ k,k < n∧C k = c:=by simp
theorem cls_tie {n:Nat} {C:Nat→Nat} {a b:Nat} (hC:∀ k,k < n→C k < n) (ha:a < n) (hb:b < n) (hne:C a≠C b):cls n (tied C a b) < cls n C:=by
 refine Wb.filter_lt _ _ _ (fun c _ h=>?_) (C a) (List.mem_range.2 (hC a ha)) ?_ (used_iff.2 ⟨a,ha,rfl⟩)
 ·obtain ⟨k,hk,e⟩:=used_iff.1 h
  unfold tied at e
  by_cases h1:C k = C a
  ·rw [if_pos h1] at e;exact used_iff.2 ⟨b,hb,e⟩
  ·rw [if_neg h1] at e;exact used_iff.2 ⟨k,hk,e⟩
 ·rw [Bool.eq_false_iff]
  intro h
  obtain ⟨k,hk,e⟩:=used_iff.1 h
  unfold tied at e
  by_cases h1:C k = C a
  ·rw [if_pos h1] at e;exact hne e.symm
  ·rw [if_neg h1] at e;exact h1 e
theorem tied_lt {n:Nat} {C:Nat→Nat} {a b:Nat} (hC:∀ k,k < n→C k < n) (hb:b < n):∀ k,k < n→tied C a b k < n:=fun k hk=>by
 unfold tied
 split
 ·exact hC b hb
 ·exact hC k hk
def Shut (S:Nat→Int) (K:Nat→List Nat) (C:Nat→Nat) (a b:Nat):Prop:=C a = C b→0≤S a→0≤S b→S a = S b∧∀ i,i < Tm.room (S a)→C ((K a)[i]?.getD 0) = C ((K b)[i]?.getD 0)
def sym (n:Nat) (S:Nat→Int) (C:Nat→Nat) (c:Nat):Option Nat:=(List.range n).find? fun k=>decide (C k = c) && decide (0≤S k)
theorem sym_some {n:Nat} {S:Nat→Int} {C:Nat→Nat} {c k:Nat} (h:sym n S C c = some k):k < n∧C k = c∧0≤S k:=by
 have h1:=List.find?_some h
 have h2:=List.mem_of_find?_eq_some h
 simp only [Bool.and_eq_true,decide_eq_true_eq] at h1
 exact ⟨List.mem_range.1 h2,h1.1,h1.2⟩
theorem sym_none {n:Nat} {S:Nat→Int} {C:Nat→Nat} {c:Nat} (h:sym n S C c = none):∀ k,k < n→C k = c→S k < 0:=fun k hk e=>by
 have h1:=List.find?_eq_none.1 h k (List.mem_range.2 hk)
 simp only [Bool.and_eq_true,decide_eq_true_eq,not_and] at h1
 have:=h1 e
 omega
def rnd (n:Nat) (S:Nat→Int) (K:Nat→List Nat) (C:Nat→Nat):Nat→Nat→Bool
 | 0,_=>true
 | f+1,c=>match sym n S C c with
  | none=>false
  | some k=>(K k).any fun i=>rnd n S K C f (C i)
theorem rnd_none {n:Nat} {S:Nat→Int} {K:Nat→List Nat} {C:Nat→Nat} {f c:Nat} (h:sym n S C c = none):rnd n S K C (f+1) c = false:=by rw [rnd,h]
theorem rnd_some {n:Nat} {S:Nat→Int} {K:Nat→List Nat} {C:Nat→Nat} {f c k:Nat} (h:sym n S C c = some k):rnd n S K C (f+1) c = (K k).any fun i=>rnd n S K C f (C i):=by rw [rnd,h]
def bst (S:Nat→Int) (C:Nat→Nat) (c:Nat):Nat→Int
 | 0=>-9
 | m+1=>if C m = c∧bst S C c m < S m then S m else bst S C c m
theorem bst_ge {S:Nat→Int} {C:Nat→Nat} {c:Nat}:∀ (m k:Nat),k < m→C k = c→S k≤bst S C c m:=by
 intro m
 induction m with
 | zero=>intro k h;omega
 | succ m ih =>
  intro k hk e
  rw [bst]
  by_cases h:C m = c∧bst S C c m < S m
  ·rw [if_pos h]
   by_cases e2:k = m
   ·subst e2;exact Int.le_refl _
   ·have:=ih k (by omega) e;omega
  ·rw [if_neg h]
   by_cases e2:k = m
   ·subst e2
    have:¬ bst S C c k < S k:=fun h2=>h ⟨e,h2⟩
    omega
   ·exact ih k (by omega) e
theorem bst_is {S:Nat→Int} {C:Nat→Nat} {c:Nat}:∀ (m:Nat),bst S C c m = -9∨∃ k,k < m∧C k = c∧bst S C c m = S k:=by
 intro m
 induction m with
 | zero=>exact .inl rfl
 | succ m ih =>
  rw [bst]
  by_cases h:C m = c∧bst S C c m < S m
  ·rw [if_pos h];exact .inr ⟨m,by omega,h.1,rfl⟩
  ·rw [if_neg h]
   rcases ih with e | ⟨k,hk,h1,h2⟩
   ·exact .inl e
   ·exact .inr ⟨k,by omega,h1,h2⟩
theorem Gph.best {n:Nat} {S:Nat→Int} {K:Nat→List Nat} {Z:Nat→List Int} (G:Gph n S K Z) {C:Nat→Nat} {k:Nat} (hk:k < n):∃ j,j < n∧C j = C k∧bst S C (C k) n = S j:=by
 rcases bst_is (S:=S) (C:=C) (c:=C k) n with e | h
 ·have:=bst_ge (S:=S) (C:=C) n k hk rfl
  have:=(G.known k hk).1
  omega
 ·exact h
def bec (n:Nat) (S:Nat→Int) (K:Nat→List Nat) (C:Nat→Nat):Nat→Nat→List Int
 | 0,_=>[]
 | f+1,c=>match sym n S C c with
  | none=>[bst S C c n]
  | some k=>S k :: ((K k).map fun i=>bec n S K C f (C i)).flatten
theorem bec_none {n:Nat} {S:Nat→Int} {K:Nat→List Nat} {C:Nat→Nat} {f c:Nat} (h:sym n S C c = none):bec n S K C (f+1) c = [bst S C c n]:=by rw [bec,h]
theorem bec_some {n:Nat} {S:Nat→Int} {K:Nat→List Nat} {C:Nat→Nat} {f c k:Nat} (h:sym n S C c = some k):bec n S K C (f+1) c = S k :: ((K k).map fun i=>bec n S K C f (C i)).flatten:=by rw [bec,h]
theorem rnd_kid {n:Nat} {S:Nat→Int} {K:Nat→List Nat} {C:Nat→Nat} {f c k:Nat} (h:sym n S C c = some k) (hr:rnd n S K C (f+1) c = false):∀ i∈K k,rnd n S K C f (C i) = false:=fun i hi=>by
 rw [rnd_some h] at hr
 have:=List.any_eq_false.1 hr i hi
 simpa using this
theorem bec_more {n:Nat} {S:Nat→Int} {K:Nat→List Nat} {C:Nat→Nat}:∀ (f c:Nat),rnd n S K C f c = false→bec n S K C (f+1) c = bec n S K C f c:=by
 intro f
 induction f with
 | zero=>intro c h;simp [rnd] at h
 | succ f ih =>
  intro c h
  cases hs:sym n S C c with
  | none=>rw [bec_none hs,bec_none hs]
  | some k =>
   rw [bec_some hs,bec_some hs]
   congr 2
   refine List.map_congr_left fun i hi=>?_
   exact ih _ (rnd_kid hs h i hi)
theorem bec_run {n:Nat} {S:Nat→Int} {K:Nat→List Nat} {Z:Nat→List Int} (G:Gph n S K Z) {C:Nat→Nat}:∀ (f k:Nat),k < n→rnd n S K C f (C k) = false→Tm.run (bec n S K C f (C k)) 1 = (bec n S K C f (C k)).length:=by
 intro f
 induction f with
 | zero=>intro k _ h;simp [rnd] at h
 | succ f ih =>
  intro k hk h
  cases hs:sym n S C (C k) with
  | none =>
   rw [bec_none hs]
   obtain ⟨j,hj,e1,e2⟩:=G.best (C:=C) hk
   have:=sym_none hs j hj e1
   rw [show (1:Nat) = 0+1 from rfl,Tm.run_cons,Wb.room_var (by omega),Tm.run_zero]
   rfl
  | some q =>
   obtain ⟨hq,e1,e2⟩:=sym_some hs
   rw [bec_some hs]
   have hr:=run_kids (l:=(K q).map fun i=>bec n S K C f (C i)) fun x hx=>by
    obtain ⟨i,hi,rfl⟩:=List.mem_map.1 hx
    exact ih i (G.kids q hq i hi) (rnd_kid hs h i hi)
   rw [List.length_map,G.room q hq] at hr
   rw [show (1:Nat) = 0+1 from rfl,Tm.run_cons,Nat.zero_add,hr,List.length_cons]
   omega
theorem bec_vars {n:Nat} {S:Nat→Int} {K:Nat→List Nat} {Z:Nat→List Int} (G:Gph n S K Z) {C:Nat→Nat}:∀ (f k:Nat),k < n→∀ s∈bec n S K C f (C k),-8≤s∧s < 6:=by
 intro f
 induction f with
 | zero=>intro k _ s h;simp [bec] at h
 | succ f ih =>
  intro k hk s h
  cases hs:sym n S C (C k) with
  | none =>
   rw [bec_none hs] at h
   obtain ⟨j,hj,e1,e2⟩:=G.best (C:=C) hk
   simp only [List.mem_cons,List.not_mem_nil,or_false] at h
   rw [h,e2]
   exact G.known j hj
  | some q =>
   obtain ⟨hq,e1,e2⟩:=sym_some hs
   rw [bec_some hs] at h
   rcases List.mem_cons.1 h with e | h
   ·rw [e];exact G.known q hq
   ·obtain ⟨l,hl,hsl⟩:=List.mem_flatten.1 h
    obtain ⟨i,hi,rfl⟩:=List.mem_map.1 hl
    exact ih i (G.kids q hq i hi) s hsl
theorem bec_most {n:Nat} {S:Nat→Int} {K:Nat→List Nat} {Z:Nat→List Int} (G:Gph n S K Z) {C:Nat→Nat} {θ:Sb} (R:Resp n Z C θ):∀ (f k:Nat),k < n→rnd n S K C f (C k) = false→App θ (Z k) = App θ (bec n S K C f (C k)):=by
 intro f
 induction f with
 | zero=>intro k _ h;simp [rnd] at h
 | succ f ih =>
  intro k hk h
  cases hs:sym n S C (C k) with
  | none =>
   obtain ⟨j,hj,e1,e2⟩:=G.best (C:=C) hk
   have:=sym_none hs j hj e1
   rw [bec_none hs,e2,R k j hk hj e1.symm,(G.var hj this).2]
  | some q =>
   obtain ⟨hq,e1,e2⟩:=sym_some hs
   rw [bec_some hs,R k q hk hq e1.symm,G.app θ hq e2,App_cons,if_neg (by omega),App_flatten,List.map_map]
   show S q :: _ = S q :: _
   congr 2
   refine List.map_congr_left fun i hi=>?_
   exact ih i (G.kids q hq i hi) (rnd_kid hs h i hi)
theorem rnd_no {n:Nat} {S:Nat→Int} {K:Nat→List Nat} {Z:Nat→List Int} (G:Gph n S K Z) {C:Nat→Nat} (hC:∀ k,k < n→C k < n) {θ:Sb} (R:Resp n Z C θ) {k:Nat} (hk:k < n):rnd n S K C (n+1) (C k) = false:=by
 let ln:Nat→Nat:=fun c=>match (List.range n).find? fun j=>decide (C j = c) with
  | some j=>(App θ (Z j)).length
  | none=>0
 have hln:∀ j,j < n→ln (C j) = (App θ (Z j)).length:=fun j hj=>by
  show (match (List.range n).find? fun i=>decide (C i = C j) with
   | some j=>(App θ (Z j)).length
   | none=>0) = _
  cases hf:(List.range n).find? fun i=>decide (C i = C j) with
  | none=>exact absurd (List.find?_eq_none.1 hf j (List.mem_range.2 hj)) (by simp)
  | some i =>
   have h1:=List.find?_some hf
   have h2:=List.mem_range.1 (List.mem_of_find?_eq_some hf)
   simp only [decide_eq_true_eq] at h1
   show (App θ (Z i)).length = _
   rw [R i j h2 hj h1]
 let g:Nat→Nat:=fun c=>((List.range n).filter fun d=>((List.range n).any fun k=>C k == d) && decide (ln d < ln c)).length
 have hle:∀ f k,k < n→rnd n S K C f (C k) = true→f≤g (C k):=by
  intro f
  induction f with
  | zero=>intro k _ _;omega
  | succ f ih =>
   intro k hk h
   cases hs:sym n S C (C k) with
   | none=>rw [rnd_none hs] at h;cases h
   | some q =>
    obtain ⟨hq,e1,e2⟩:=sym_some hs
    rw [rnd_some hs] at h
    obtain ⟨i,hi,h⟩:=List.any_eq_true.1 h
    have hin:=G.kids q hq i hi
    have h1:=ih i hin h
    have hlt:ln (C i) < ln (C k):=by
     rw [hln i hin,hln k hk,R k q hk hq e1.symm,G.app θ hq e2,List.length_cons]
     have:=mem_len (List.mem_map_of_mem (f:=fun i=>App θ (Z i)) hi)
     omega
    have h2:g (C i) < g (C k):=by
     refine Wb.filter_lt _ _ _ (fun d _ h=>?_) (C i) (List.mem_range.2 (hC i hin)) ?_ ?_
     ·simp only [Bool.and_eq_true,decide_eq_true_eq] at h ⊢
      exact ⟨h.1,by omega⟩
     ·simp
     ·simp only [Bool.and_eq_true,decide_eq_true_eq]
      exact ⟨used_iff.2 ⟨i,hin,rfl⟩,hlt⟩
    omega
 rw [Bool.eq_false_iff]
 intro h
 have h1:=hle _ k hk h
 have h2:g (C k)≤n:=by
  refine Nat.le_trans (List.length_filter_le _ _) ?_
  simp
 omega
def sig (n:Nat) (S:Nat→Int) (K:Nat→List Nat) (C:Nat→Nat):Sb:=fun v=>match (List.range n).find? fun k=>decide (S k = v) with
 | some k=>bec n S K C (n+1) (C k)
 | none=>[v]
theorem sig_at {n:Nat} {S:Nat→Int} {K:Nat→List Nat} {Z:Nat→List Int} (G:Gph n S K Z) (C:Nat→Nat) {k:Nat} (hk:k < n) (hs:S k < 0):sig n S K C (S k) = bec n S K C (n+1) (C k):=by
 unfold sig
 cases hf:(List.range n).find? fun i=>decide (S i = S k) with
 | none=>exact absurd (List.find?_eq_none.1 hf k (List.mem_range.2 hk)) (by simp)
 | some i =>
  have h1:=List.find?_some hf
  have h2:=List.mem_range.1 (List.mem_of_find?_eq_some hf)
  simp only [decide_eq_true_eq] at h1
  have:=G.vars i k h2 hk (by omega) h1
  subst this
  rfl
theorem sig_no {n:Nat} {S:Nat→Int} {K:Nat→List Nat} {C:Nat→Nat} {v:Int} (h:∀ k,k < n→S k≠v):sig n S K C v = [v]:=by
 unfold sig
 rw [List.find?_eq_none.2 fun k hk=>by simpa using h k (List.mem_range.1 hk)]
theorem sig_or {n:Nat} {S:Nat→Int} {K:Nat→List Nat} {Z:Nat→List Int} (G:Gph n S K Z) (C:Nat→Nat) (v:Int) (hv:v < 0):(∃ k,k < n∧S k = v∧sig n S K C v = bec n S K C (n+1) (C k))∨((∀ k,k < n→S k≠v)∧sig n S K C v = [v]):=by
 by_cases h:∃ k,k < n∧S k = v
 ·obtain ⟨k,hk,rfl⟩:=h
  exact .inl ⟨k,hk,rfl,sig_at G C hk hv⟩
 ·have h':∀ k,k < n→S k≠v:=fun k hk e=>h ⟨k,hk,e⟩
  exact .inr ⟨h',sig_no h'⟩
theorem sig_app {n:Nat} {S:Nat→Int} {K:Nat→List Nat} {Z:Nat→List Int} (G:Gph n S K Z) {C:Nat→Nat} (hS:∀ a b,a < n→b < n→Shut S K C a b) (hr:∀ k,k < n→rnd n S K C (n+1) (C k) = false):∀ (m k:Nat),(Z k).length≤m→k < n→App (sig n S K C) (Z k) = bec n S K C (n+1) (C k):=by
 intro m
 induction m with
 | zero=>intro k h hk;rw [G.sign k hk,List.length_cons] at h;omega
 | succ m ih =>
  intro k h hk
  by_cases hs:S k < 0
  ·rw [(G.var hk hs).2,App_cons,if_pos hs,sig_at G C hk hs,Wb.App_nil,List.append_nil]
  ·cases hy:sym n S C (C k) with
   | none=>exact absurd (sym_none hy k hk rfl) hs
   | some q =>
    obtain ⟨hq,e1,e2⟩:=sym_some hy
    obtain ⟨e3,e4⟩:=hS k q hk hq e1.symm (by omega) e2
    rw [bec_some hy,G.app _ hk (by omega),e3]
    congr 2
    refine List.ext_getElem (by rw [List.length_map,List.length_map,G.room k hk,G.room q hq,e3]) fun i h1 h2=>?_
    rw [List.length_map] at h1 h2
    rw [List.getElem_map,List.getElem_map]
    have hi1:=List.getElem_mem h1
    have hi2:=List.getElem_mem h2
    rw [ih _ (by have:=G.kid_len hk hi1;omega) (G.kids k hk _ hi1)]
    have e5:=e4 i (by rw [← G.room k hk];exact h1)
    rw [List.getElem?_eq_getElem h1,List.getElem?_eq_getElem h2] at e5
    simp only [Option.getD_some] at e5
    rw [e5]
    exact bec_more n _ (rnd_kid hy (hr k hk) _ hi2)
theorem sig_mgu {n:Nat} {S:Nat→Int} {K:Nat→List Nat} {Z:Nat→List Int} (G:Gph n S K Z) {C:Nat→Nat} (hS:∀ a b,a < n→b < n→Shut S K C a b) (hr:∀ k,k < n→rnd n S K C (n+1) (C k) = false) {ps:PairL}
 (hsound:∀ θ,TermSb θ→Same ps ps.length θ→Resp n Z C θ) (htied:∀ j,j < ps.length→∃ a b,a < n∧b < n∧Z a = (ps[j]?.getD ([],[])).1∧Z b = (ps[j]?.getD ([],[])).2∧C a = C b):Wb.Mgu ps (sig n S K C):=by
 refine ⟨fun s hs=>?_,fun v h1 h2 s hs=>?_,fun j hj=>?_,fun θ hθ H v h1 h2=>?_,fun v u h1 h2 e hu=>?_⟩
 ·rcases sig_or (K:=K) G C s hs with ⟨k,hk,rfl,e⟩ | ⟨_,e⟩
  ·rw [e];exact bec_run G _ k hk (hr k hk)
  ·rw [e,show (1:Nat) = 0+1 from rfl,Tm.run_cons,Wb.room_var hs,Tm.run_zero];rfl
 ·rcases sig_or (K:=K) G C v h2 with ⟨k,hk,rfl,e⟩ | ⟨_,e⟩
  ·rw [e] at hs;exact bec_vars G _ k hk s hs
  ·rw [e] at hs
   simp only [List.mem_cons,List.not_mem_nil,or_false] at hs
   omega
 ·obtain ⟨a,b,ha,hb,e1,e2,e3⟩:=htied j hj
  rw [← e1,← e2,sig_app G hS hr _ a (Nat.le_refl _) ha,sig_app G hS hr _ b (Nat.le_refl _) hb,e3]
 ·rcases sig_or (K:=K) G C v h2 with ⟨k,hk,rfl,e⟩ | ⟨_,e⟩
  ·rw [e,← bec_most G (hsound θ hθ H) _ k hk (hr k hk),(G.var hk h2).2,App_cons,if_pos h2,Wb.App_nil,List.append_nil]
  ·rw [e,App_cons,if_pos h2,Wb.App_nil,List.append_nil]
 ·rcases sig_or (K:=K) G C v h2 with ⟨k,hk,rfl,e2⟩ | ⟨_,e2⟩
  ·rw [e2] at e
   cases hy:sym n S C (C k) with
   | none =>
    rw [bec_none hy] at e
    have:=bst_ge (S:=S) (C:=C) n k hk rfl
    simp only [List.cons.injEq,and_true] at e
    omega
   | some q =>
    obtain ⟨hq,e1,e3⟩:=sym_some hy
    rw [bec_some hy] at e
    have:=(List.cons.inj e).1
    omega
  ·rw [e2] at e
   simp only [List.cons.injEq,and_true] at e
   omega
end Mt
end Go.Proofs.YtglohanbpjaieaaGreat
namespace Go.Proofs.YtglohanbpjaieaaGreat
open Go.Proofs Go.RowKit Go.Shelf Go.Maps
def Fnd (n:Nat) (N:Nat→Nat) (S:Nat→Int) (p j:Nat):Prop:=j < n∧(S j < 0→∀ k,k < j→S k≠S j)∧(0≤S j→N j = p∧∀ k,k < j→N k≠p)
structure Ties (W:World) (x n:Nat) (aN:Option Addr) (cN:Nat) (aC:Option Addr) (cC:Nat) (N:Nat→Nat) (C:Nat→Nat) (S:Nat→Int) (K:Nat→List Nat) (P:Nat→Nat→Nat):Prop where
 c0:W.cell? ⟨x,0,none⟩ = some (.slice aN n cN)
 c1:W.cell? ⟨x,1,none⟩ = some (.slice aC n cC)
 nd:∀ k,k < n→∃ b off,aN = some ⟨b,off,none⟩∧W.cell? ⟨b,off+k,none⟩ = some (ptr (N k))
 cl:∀ k,k < n→∃ b off,aC = some ⟨b,off,none⟩∧W.cell? ⟨b,off+k,none⟩ = some (.int .i64 (C k:Int))
 tr:∀ k,k < n→∃ a c,Node W (N k) (S k) (.slice a (Tm.room (S k)) c)∧∀ i,i < Tm.room (S k)→∃ b off,a = some ⟨b,off,none⟩∧W.cell? ⟨b,off+i,none⟩ = some (ptr (P k i))
 ps:∀ k i,k < n→i < Tm.room (S k)→∃ v,Node W (P k i) (S ((K k)[i]?.getD 0)) v
 fd:∀ k i,k < n→i < Tm.room (S k)→Fnd n N S (P k i) ((K k)[i]?.getD 0)
 le:n≤5000
theorem Ties.drewN {W:World} {x n:Nat} {aN:Option Addr} {cN:Nat} {aC:Option Addr} {cC:Nat} {N:Nat→Nat} {C:Nat→Nat} {S:Nat→Int} {K:Nat→List Nat} {P:Nat→Nat→Nat} (h:Ties W x n aN cN aC cC N C S K P) (d:Nat):Ties (W.drewN d) x n aN cN aC cC N C S K P :=
 ⟨h.c0,h.c1,h.nd,h.cl,h.tr,h.ps,h.fd,h.le⟩
theorem Tryz.infoTree:∃ j,Tryz.prog.info? 121 = some j∧j.size≠0:=by
 have h:(Tryz.prog.info? 121).map (fun i=>i.size) = some 2:=by kernel_rfl
 cases hi:Tryz.prog.info? 121 with
 | none=>rw [hi] at h;cases h
 | some j =>
  rw [hi] at h
  simp only [Option.map_some,Option.some.injEq] at h
  exact ⟨j,rfl,by omega⟩
set_option maxRecDepth 100000 in
set_option maxHeartbeats 1000000 in
theorem node_fd {x n:Nat} {aN:Option Addr} {cN:Nat} {N:Nat→Nat} {S:Nat→Int} (w:World) (p j:Nat) (hc0:w.cell? ⟨x,0,none⟩ = some (.slice aN n cN)) (hnd:∀ k,k < n→∃ b off,aN = some ⟨b,off,none⟩∧w.cell? ⟨b,off+k,none⟩ = some (ptr (N k))) (hsg:∀ k,k < n→∃ v,Node w (N k) (S k) v) (hn:n≤5000)
 {vp:Value} (hpN:Node w p (S j) vp) (F:Fnd n N S p j) :
 Calls Tryz.prog 80 #[ptr x,ptr p] w fun e w'=>e = .returned (.int .i64 (j:Int))∧∃ m,w' = w.drewN m:=by
 obtain ⟨hj,F1,F2⟩:=F
 obtain ⟨ti,hti,htz⟩:=Tryz.infoTree
 have hn':(n:Int)≤5000:=by omega
 have Hnd:=hid hnd
 have hp:=hpN.cell0
 have HpN:=hid hpN
 clear hpN
 have Hsg:=hid hsg
 clear hnd hsg
 by_cases hs:S j < 0
 ·have F1':=hid (F1 hs)
  clear F1 F2
  have Hd:Hid (S j = S j):=rfl
  generalize hsd:S j = s at *
  have HS:=hid hsd
  clear hsd Hd
  go_enter Tryz.func80,Tryz.ntmps80
  go_wp2
  go_loopw [5] (fun i wr=>∃ k:Nat,k≤j∧i = .int .i64 (k:Int)∧∃ d,wr = w.drewN d) (fun i _=>j - (intOf i).toNat)
  case atStart=>exact ⟨0,Nat.zero_le _,rfl,0,rfl⟩
  case round =>
   obtain ⟨k,hk,rfl,d,rfl⟩:=hrel
   have hkn:(k:Int) < (n:Int):=by omega
   obtain ⟨b,off,rfl,hck⟩:=Hnd.out k (by omega)
   obtain ⟨vk,hNk⟩:=Hsg.out k (by omega)
   have hsk:=hNk.cell0
   clear hNk
   by_cases hlt:k < j
   ·have hne:(S k == s) = false:=by simpa using F1'.out k hlt
    generalize S k = sk at *
    go_wp2
    go_quiet (fail)
    go_wp2
    go_roundw
    case rel=>exact ⟨k+1,by omega,by go_num,_,rfl⟩
    case measure=>simp [intOf];omega
   ·obtain rfl:k = j:=by omega
    rw [HS.out] at hsk
    go_wp2
    go_quiet (fail)
    go_wp2
    go_ret
    exact ⟨rfl,_,World.drewN_drewN _ _ _⟩
 ·obtain ⟨F3,F4⟩:=F2 (by omega)
  have F4':=hid F4
  have F3':=hid F3
  have hs0:decide (S j < 0) = false:=by simpa using hs
  clear F1 F2 F3 F4 hs
  generalize S j = s at *
  have h0n:(0:Int) < (n:Int):=by omega
  go_enter Tryz.func80,Tryz.ntmps80
  go_wp2
  refine wp_loop_rounds 1 ?_
  rw [rounds_succ]
  go_wp2
  go_loopw [6] (fun i wr=>∃ k:Nat,k≤j∧i = .int .i64 (k:Int)∧∃ d,wr = w.drewN d) (fun i _=>j - (intOf i).toNat)
  case atStart=>exact ⟨0,Nat.zero_le _,rfl,0,rfl⟩
  case round =>
   obtain ⟨k,hk,rfl,d,rfl⟩:=hrel
   have hkn:(k:Int) < (n:Int):=by omega
   obtain ⟨b,off,rfl,hck⟩:=Hnd.out k (by omega)
   by_cases hlt:k < j
   ·obtain ⟨vk,hNk⟩:=Hsg.out k (by omega)
    have hrun:=run_eql_ptr_other (P:=Tryz.prog) (w.drewN d) (a:=⟨N k,0,none⟩) (b:=⟨p,0,none⟩) Tryz.underlying117 hti htz (fun e=>F4'.out k hlt (by cases e;rfl)) hNk HpN.out
    clear hNk
    generalize N k = q at *
    go_wp2
    go_roundw
    case rel=>exact ⟨k+1,by omega,by go_num,_,rfl⟩
    case measure=>simp [intOf];omega
   ·obtain rfl:k = j:=by omega
    rw [F3'.out] at hck
    have hrun:=run_eql_ptr_same (P:=Tryz.prog) (w.drewN d) ⟨p,0,none⟩ Tryz.underlying117 hti
    go_wp2
    go_ret
    exact ⟨rfl,_,rfl⟩
namespace Mt
theorem sym_of {n:Nat} {S:Nat→Int} {C:Nat→Nat} {c k:Nat} (hk:k < n) (h1:C k = c) (h2:0≤S k) (h:∀ j,j < k→¬ (C j = c∧0≤S j)):sym n S C c = some k:=by
 unfold sym
 rw [List.find?_range_eq_some]
 refine ⟨by simp [h1,h2],List.mem_range.2 hk,fun j hj=>?_⟩
 have:=h j hj
 simp only [Bool.not_eq_true',Bool.and_eq_false_iff,decide_eq_false_iff_not]
 by_cases e:C j = c
 ·exact .inr fun h3=>this ⟨e,h3⟩
 ·exact .inl e
theorem sym_not {n:Nat} {S:Nat→Int} {C:Nat→Nat} {c:Nat} (h:∀ j,j < n→¬ (C j = c∧0≤S j)):sym n S C c = none:=by
 unfold sym
 rw [List.find?_eq_none]
 intro j hj
 have:=h j (List.mem_range.1 hj)
 simpa using this
def symI (n:Nat) (S:Nat→Int) (C:Nat→Nat) (c:Nat):Int:=match sym n S C c with
 | some k=>(k:Int)
 | none=>-1
end Mt
set_option maxRecDepth 100000 in
set_option maxHeartbeats 1000000 in
theorem symbol_any {x n:Nat} {aN:Option Addr} {cN:Nat} {aC:Option Addr} {cC:Nat} {N:Nat→Nat} {C:Nat→Nat} {S:Nat→Int} {K:Nat→List Nat} {P:Nat→Nat→Nat} (w:World) (H:Ties w x n aN cN aC cC N C S K P) (c:Nat) :
 Calls Tryz.prog 111 #[ptr x,.int .i64 (c:Int)] w fun e w'=>e = .returned (.int .i64 (Mt.symI n S C c))∧∃ m,w' = w.drewN m:=by
 have hn:=H.le
 have hn':(n:Int)≤5000:=by omega
 have hc0:=H.c0
 have hc1:=H.c1
 have HH:=hid H
 clear H
 have Hs:=hid (fun k (hk:k < n) h1 h2 h=>(by unfold Mt.symI;rw [Mt.sym_of (S:=S) (C:=C) (c:=c) hk h1 h2 h]:Mt.symI n S C c = (k:Int)))
 have Hn:=hid (fun h=>(by unfold Mt.symI;rw [Mt.sym_not (n:=n) (S:=S) (C:=C) (c:=c) h]:Mt.symI n S C c = -1))
 generalize Mt.symI n S C c = r at *
 go_enter Tryz.func111,Tryz.ntmps111
 go_wp2
 go_loopw [5] (fun i wr=>∃ k:Nat,k≤n∧i = .int .i64 (k:Int)∧Hid (∀ j,j < k→¬ (C j = c∧0≤S j))∧∃ d,wr = w.drewN d) (fun i _=>n - (intOf i).toNat)
 case atStart=>exact ⟨0,Nat.zero_le _,rfl,fun j hj=>by omega,0,rfl⟩
 case round =>
  obtain ⟨k,hk,rfl,hno,d,rfl⟩:=hrel
  by_cases hlt:k < n
  ·have hkn:(k:Int) < (n:Int):=by omega
   obtain ⟨b,off,rfl,hck⟩:=HH.out.cl k hlt
   by_cases hC:C k = c
   ·obtain ⟨b',off',rfl,hnk⟩:=HH.out.nd k hlt
    obtain ⟨a1,c1,hNk,_⟩:=HH.out.tr k hlt
    have hsk:=hNk.cell0
    clear hNk
    have HC:=hid hC
    have heq:((C k:Int) == (c:Int)) = true:=by rw [hC];simp
    clear hC
    by_cases hs:0≤S k
    ·have hr:=Hs.out k hlt HC.out hs hno.out
     have Hr:=hid hr
     clear hr
     generalize S k = s at *
     generalize C k = ck at *
     generalize N k = q at *
     go_wp2
     go_ret
     exact ⟨by rw [Hr.out];rfl,_,rfl⟩
    ·have hs':decide (0≤S k) = false:=by simpa using hs
     have Hno':Hid (∀ j,j < k+1→¬ (C j = c∧0≤S j)):=fun j hj h=>by
      by_cases e:j = k
      ·subst e;exact hs h.2
      ·exact hno.out j (by omega) h
     clear hs
     generalize S k = s at *
     generalize C k = ck at *
     generalize N k = q at *
     go_wp2
     go_roundw
     case rel=>exact ⟨k+1,by omega,by go_num,Hno',_,rfl⟩
     case measure=>simp [intOf];omega
   ·have hne:((C k:Int) == (c:Int)) = false:=by simp;omega
    have Hno':Hid (∀ j,j < k+1→¬ (C j = c∧0≤S j)):=fun j hj h=>by
     by_cases e:j = k
     ·subst e;exact hC h.1
     ·exact hno.out j (by omega) h
    clear hC
    generalize C k = ck at *
    go_wp2
    go_roundw
    case rel=>exact ⟨k+1,by omega,by go_num,Hno',_,rfl⟩
    case measure=>simp [intOf];omega
  ·obtain rfl:k = n:=by omega
   have Hr:=hid (Hn.out hno.out)
   go_wp2
   go_ret
   exact ⟨by rw [Hr.out];rfl,_,rfl⟩
theorem mt_any_snoc (l:List Nat) (f:Nat→Bool) (i:Nat) (hi:i < l.length) (h:(l.take i).any f = false) (h2:f (l[i]?.getD 0) = false):(l.take (i+1)).any f = false:=by
 rw [List.take_succ_eq_append_getElem hi,List.any_append,h]
 rw [List.getElem?_eq_getElem hi] at h2
 simpa using h2
theorem mt_any_hit (l:List Nat) (f:Nat→Bool) (i:Nat) (hi:i < l.length) (h2:f (l[i]?.getD 0) = true):l.any f = true:=by
 rw [List.getElem?_eq_getElem hi] at h2
 exact List.any_eq_true.2 ⟨_,List.getElem_mem hi,h2⟩
set_option maxRecDepth 100000 in
set_option maxHeartbeats 1000000 in
theorem round_step {x n:Nat} {aN:Option Addr} {cN:Nat} {aC:Option Addr} {cC:Nat} {N:Nat→Nat} {C:Nat→Nat} {S:Nat→Int} {K:Nat→List Nat} {P:Nat→Nat→Nat} (hroom:∀ k,k < n→(K k).length = Tm.room (S k)) (w:World) (H:Ties w x n aN cN aC cC N C S K P) (f deep c:Nat) (hf:f+1+deep = n+1)
 (ih:∀ (c' d:Nat),Calls Tryz.prog 84 #[ptr x,.int .i64 (c':Int),.int .i64 ((deep:Int)+1)] (w.drewN d) fun e w'=>e = .returned (.bool (Mt.rnd n S K C f c'))∧∃ m,w' = (w.drewN d).drewN m) :
 Calls Tryz.prog 84 #[ptr x,.int .i64 (c:Int),.int .i64 (deep:Int)] w fun e w'=>e = .returned (.bool (Mt.rnd n S K C (f+1) c))∧∃ m,w' = w.drewN m:=by
 have hn:=H.le
 have hn':(n:Int)≤5000:=by omega
 have hc0:=H.c0
 have hc1:=H.c1
 have hdn:(deep:Int)≤(n:Int):=by omega
 have hsy:=symbol_any w H c
 have HH:=hid H
 have IH:=hid ih
 clear H ih
 cases hy:Mt.sym n S C c with
 | none =>
  have hr:=hid (Mt.rnd_none (K:=K) (f:=f) hy)
  have hsi:Mt.symI n S C c = -1:=by unfold Mt.symI;rw [hy]
  rw [hsi] at hsy
  clear hsi hy
  generalize Mt.rnd n S K C (f+1) c = r at *
  go_enter Tryz.func84,Tryz.ntmps84
  go_wp2_with (first
   | (go_at_call 111;refine hsy.mono ?_;clear hsy;rintro e w1 ⟨rfl,d,rfl⟩))
  go_ret
  exact ⟨by rw [hr.out];rfl,_,rfl⟩
 | some k =>
  obtain ⟨hk,e1,e2⟩:=Mt.sym_some hy
  have hr:=hid (Mt.rnd_some (K:=K) (f:=f) hy)
  have hsi:Mt.symI n S C c = (k:Int):=by unfold Mt.symI;rw [hy]
  rw [hsi] at hsy
  clear hsi hy e1 e2
  generalize Mt.rnd n S K C (f+1) c = r at *
  have hkn:(k:Int) < (n:Int):=by omega
  obtain ⟨b',off',rfl,hnk⟩:=HH.out.nd k hk
  obtain ⟨a1,c1,hNk,hparts⟩:=HH.out.tr k hk
  have hp1:=hNk.cell1
  have Hp:=hid hparts
  have hr2:=Tm.room_le (S k)
  have hrK:=hid (hroom k hk)
  clear hNk hparts
  obtain ⟨bC,offC,rfl,_⟩:=HH.out.cl k hk
  have Hps:=hid (fun i hi=>HH.out.ps k i hk hi)
  have Hfd:=hid (fun i hi=>HH.out.fd k i hk hi)
  have Hnd:=hid (fun d i hi=>by
   obtain ⟨v,hv⟩:=HH.out.ps k i hk hi
   exact node_fd (x:=x) (w.drewN d) (P k i) ((K k)[i]?.getD 0) HH.out.c0 HH.out.nd (fun k hk=>by obtain ⟨a,c,h,_⟩:=HH.out.tr k hk;exact ⟨_,h⟩) HH.out.le hv (HH.out.fd k i hk hi))
  generalize hrm:Tm.room (S k) = rm at *
  clear hrm
  have hrm2:(rm:Int)≤2:=by omega
  generalize hKk:K k = Kk at *
  clear hKk
  go_enter Tryz.func84,Tryz.ntmps84
  go_wp2_with (first
   | (go_at_call 111;refine hsy.mono ?_;clear hsy;rintro e w1 ⟨rfl,d,rfl⟩))
  go_loopw [8] (fun i wr=>∃ j:Nat,j≤rm∧i = .int .i64 (j:Int)∧Hid ((Kk.take j).any (fun i=>Mt.rnd n S K C f (C i)) = false)∧Hid (∃ d,wr = w.drewN d)) (fun i _=>rm - (intOf i).toNat)
  case atStart=>exact ⟨0,Nat.zero_le _,rfl,by simp [Hid],_,rfl⟩
  case round =>
   obtain ⟨j,hj,rfl,hno,hwr⟩:=hrel
   have h0r:wr.cell? ⟨x,0,none⟩ = some (.slice (some ⟨b',off',none⟩) n cN):=by obtain ⟨d,e⟩:=hwr;rw [e];exact hc0
   have h1r:wr.cell? ⟨x,1,none⟩ = some (.slice (some ⟨bC,offC,none⟩) n cC):=by obtain ⟨d,e⟩:=hwr;rw [e];exact hc1
   have hnr:wr.cell? ⟨b',off'+k,none⟩ = some (ptr (N k)):=by obtain ⟨d,e⟩:=hwr;rw [e];exact hnk
   have hpr:wr.cell? ⟨N k,1,none⟩ = some (.slice a1 rm c1):=by obtain ⟨d,e⟩:=hwr;rw [e];exact hp1
   by_cases hlt:j < rm
   ·have hjr:(j:Int) < (rm:Int):=by omega
    obtain ⟨b,off,rfl,hcj⟩:=Hp.out j hlt
    obtain ⟨hin,_⟩:=Hfd.out j hlt
    obtain ⟨_,_,e,hcl⟩:=HH.out.cl _ hin
    cases e
    have hin':((Kk[j]?.getD 0:Nat):Int) < (n:Int):=by omega
    have Hhit:=hid (mt_any_hit Kk (fun i=>Mt.rnd n S K C f (C i)) j (by rw [hrK.out];exact hlt))
    have Hmiss:=hid (mt_any_snoc Kk (fun i=>Mt.rnd n S K C f (C i)) j (by rw [hrK.out];exact hlt) hno.out)
    have hcjr:wr.cell? ⟨b,off+j,none⟩ = some (ptr (P k j)):=by obtain ⟨d,e⟩:=hwr;rw [e];exact hcj
    have hclr:wr.cell? ⟨bC,offC+(Kk[j]?.getD 0),none⟩ = some (.int .i64 (C (Kk[j]?.getD 0):Int)):=by obtain ⟨d,e⟩:=hwr;rw [e];exact hcl
    have hnode:Hid (∀ m,Calls Tryz.prog 80 #[ptr x,ptr (P k j)] (wr.drewN m) fun e w'=>e = .returned (.int .i64 ((Kk[j]?.getD 0:Nat):Int))∧∃ m',w' = (wr.drewN m).drewN m'):=fun m=>by obtain ⟨d,e⟩:=hwr;have:=Hnd.out (d+m) j hlt;rw [← World.drewN_drewN,← e] at this;exact this
    generalize Kk[j]?.getD 0 = q at *
    have hrec:Hid (∀ m,Calls Tryz.prog 84 #[ptr x,.int .i64 (C q:Int),.int .i64 ((deep:Int)+1)] (wr.drewN m) fun e w'=>e = .returned (.bool (Mt.rnd n S K C f (C q)))∧∃ m',w' = (wr.drewN m).drewN m'):=fun m=>by obtain ⟨d,e⟩:=hwr;have:=IH.out (C q) (d+m);rw [← World.drewN_drewN,← e] at this;exact this
    have HQ:Hid (∀ m,∃ d,wr.drewN m = w.drewN d):=fun m=>by obtain ⟨d,e⟩:=hwr;exact ⟨_,by rw [e];exact World.drewN_drewN _ _ _⟩
    clear hc0 hc1 hnk hp1 hcj hcl
    cases hq:Mt.rnd n S K C f (C q) with
    | true =>
     rw [hq] at hrec
     have hh:=hid (Hhit.out hq)
     clear Hhit Hmiss hq
     generalize C q = cq at *
     generalize P k j = pj at *
     go_wp2
     go_quiet ((first
      | (go_at_call 80;exact Calls.quiet_of (hnode.out _))
      | (go_at_call 84;exact Calls.quiet_of (hrec.out _))))
     go_wp2
     go_ret
     exact ⟨by rw [hr.out,hh.out];rfl,HQ.out _⟩
    | false =>
     rw [hq] at hrec
     have hh:=hid (Hmiss.out hq)
     clear Hhit Hmiss hq
     generalize C q = cq at *
     generalize P k j = pj at *
     go_wp2
     go_quiet ((first
      | (go_at_call 80;exact Calls.quiet_of (hnode.out _))
      | (go_at_call 84;exact Calls.quiet_of (hrec.out _))))
     go_wp2
     go_roundw
     case rel=>exact ⟨j+1,by omega,by go_num,hh,HQ.out _⟩
     case measure=>simp [intOf];omega
   ·obtain rfl:j = rm:=by omega
    have hall:=hid (show (Kk.any fun i=>Mt.rnd n S K C f (C i)) = false by have:=hno.out;rw [← hrK.out,List.take_length] at this;exact this)
    go_wp2
    go_ret
    exact ⟨by rw [hr.out,hall.out];rfl,hwr⟩
set_option maxRecDepth 100000 in
set_option maxHeartbeats 1000000 in
theorem round_any {x n:Nat} {aN:Option Addr} {cN:Nat} {aC:Option Addr} {cC:Nat} {N:Nat→Nat} {C:Nat→Nat} {S:Nat→Int} {K:Nat→List Nat} {P:Nat→Nat→Nat} (hroom:∀ k,k < n→(K k).length = Tm.room (S k)):∀ (f deep c:Nat) (w:World),Ties w x n aN cN aC cC N C S K P→f+deep = n+1 →
 Calls Tryz.prog 84 #[ptr x,.int .i64 (c:Int),.int .i64 (deep:Int)] w fun e w'=>e = .returned (.bool (Mt.rnd n S K C f c))∧∃ m,w' = w.drewN m:=by
 intro f
 induction f with
 | zero =>
  intro deep c w H hf
  have hn:=H.le
  have hc0:=H.c0
  have hd:(n:Int) < (deep:Int):=by omega
  clear H
  rw [show Mt.rnd n S K C 0 c = true from rfl]
  go_enter Tryz.func84,Tryz.ntmps84
  go_wp2
  go_ret
  exact ⟨rfl,0,rfl⟩
 | succ f ih =>
  intro deep c w H hf
  refine round_step hroom w H f deep c hf fun c' d=>?_
  have:=ih (deep+1) c' (w.drewN d) (H.drewN d) (by omega)
  rw [show ((deep+1:Nat):Int) = (deep:Int)+1 from by omega] at this
  exact this
end Go.Proofs.YtglohanbpjaieaaGreat
