/-
  Parts of the proof: Met2, Met3, Met4, Met5, Met6.
-/
import Derived.Test.YtglohanbpjaieaaGreatBru24
set_option maxHeartbeats 2000000
set_option maxRecDepth 100000
namespace Go.Proofs.YtglohanbpjaieaaGreat
open Go.Proofs Go.RowKit Go.Shelf Go.Maps
def Fnd (n:Nat) (N:Nat→Nat) (S:Nat→Int) (p j:Nat):Prop:=j < n∧(S j < 0→∀ k,k < j→S k≠S j)∧(0≤S j→N j = p∧∀ k,k < j→N k≠p)
structure lh (W:World) (x n:Nat) (aN:Option Addr) (cN:Nat) (aC:Option Addr) (cC:Nat) (N:Nat→Nat) (C:Nat→Nat) (S:Nat→Int) (K:Nat→List Nat) (P:Nat→Nat→Nat):Prop where
 c0:W.cell? ⟨x,0,none⟩ = some (.slice aN n cN)
 c1:W.cell? ⟨x,1,none⟩ = some (.slice aC n cC)
 nd:∀ k,k < n→∃ b off,aN = some ⟨b,off,none⟩∧W.cell? ⟨b,off+k,none⟩ = some (ptr (N k))
 cl:∀ k,k < n→∃ b off,aC = some ⟨b,off,none⟩∧W.cell? ⟨b,off+k,none⟩ = some (.int .i64 (C k:Int))
 tr:∀ k,k < n→∃ a c,Node W (N k) (S k) (.slice a (Tm.room (S k)) c)∧∀ i,i < Tm.room (S k)→∃ b off,a = some ⟨b,off,none⟩∧W.cell? ⟨b,off+i,none⟩ = some (ptr (P k i))
 ps:∀ k i,k < n→i < Tm.room (S k)→∃ v,Node W (P k i) (S ((K k)[i]?.getD 0)) v
 fd:∀ k i,k < n→i < Tm.room (S k)→Fnd n N S (P k i) ((K k)[i]?.getD 0)
 le:n≤5000
theorem lh.drewN {W:World} {x n:Nat} {aN:Option Addr} {cN:Nat} {aC:Option Addr} {cC:Nat} {N:Nat→Nat} {C:Nat→Nat} {S:Nat→Int} {K:Nat→List Nat} {P:Nat→Nat→Nat} (h:lh W x n aN cN aC cC N C S K P) (d:Nat):lh (W.drewN d) x n aN cN aC cC N C S K P :=
 ⟨h.c0,h.c1,h.nd,h.cl,h.tr,h.ps,h.fd,h.le⟩
theorem Tryz.infoTree:∃ j,Tryz.prog.info? 121 = some j∧j.size≠0:=by
 have h:(Tryz.prog.info? 121).map (fun i=>i.size) = some 2:=by kernel_rfl
 cases hi:Tryz.prog.info? 121 with
 | none=>rw [hi] at h;cases h
 | some j =>
  rw [hi] at h;simp only [Option.map_some,Option.some.injEq] at h;exact ⟨j,rfl,by omega⟩
theorem IW {x n:Nat} {aN:Option Addr} {cN:Nat} {N:Nat→Nat} {S:Nat→Int} (w:World) (p j:Nat) (hc0:w.cell? ⟨x,0,none⟩ = some (.slice aN n cN)) (hnd:∀ k,k < n→∃ b off,aN = some ⟨b,off,none⟩∧w.cell? ⟨b,off+k,none⟩ = some (ptr (N k))) (hsg:∀ k,k < n→∃ v,Node w (N k) (S k) v) (hn:n≤5000)
 {vp:Value} (hpN:Node w p (S j) vp) (F:Fnd n N S p j) :
 Calls Tryz.prog 80 #[ptr x,ptr p] w fun e w'=>e = .returned (.int .i64 (j:Int))∧∃ m,w' = w.drewN m:=by
 obtain ⟨hj,F1,F2⟩:=F;obtain ⟨ti,hti,htz⟩:=Tryz.infoTree;have hn':(n:Int)≤5000:=by omega
 have Hnd:=hid hnd;have hp:=hpN.cell0;have HpN:=hid hpN;clear hpN;have Hsg:=hid hsg;clear hnd hsg;by_cases hs:S j < 0
 ·have F1':=hid (F1 hs)
  clear F1 F2;have Hd:Hid (S j = S j):=rfl;generalize hsd:S j = s at *;have HS:=hid hsd;clear hsd Hd;go_enter Tryz.func80,Tryz.ntmps80;go_wp2;go_loopw [5] (fun i wr=>∃ k:Nat,k≤j∧i = .int .i64 (k:Int)∧∃ d,wr = w.drewN d) (fun i _=>j - (intOf i).toNat)
  case atStart=>exact ⟨0,Nat.zero_le _,rfl,0,rfl⟩
  case round =>
   obtain ⟨k,hk,rfl,d,rfl⟩:=hrel;have hkn:(k:Int) < (n:Int):=by omega
   obtain ⟨b,off,rfl,hck⟩:=Hnd.out k (by omega);obtain ⟨vk,kr⟩:=Hsg.out k (by omega);have hsk:=kr.cell0;clear kr;by_cases hlt:k < j
   ·have hne:(S k == s) = false:=by simpa using F1'.out k hlt
    generalize S k = sk at *;go_wp2;go_quiet (fail)
    go_wp2;go_roundw
    case rel=>exact ⟨k+1,by omega,by go_num,_,rfl⟩
    case measure=>simp [intOf];omega
   ·obtain rfl:k = j:=by omega
    rw [HS.out] at hsk;go_wp2;go_quiet (fail)
    go_wp2;go_ret;exact ⟨rfl,_,World.drewN_drewN _ _ _⟩
 ·obtain ⟨F3,F4⟩:=F2 (by omega)
  have F4':=hid F4;have F3':=hid F3;have hs0:decide (S j < 0) = false:=by simpa using hs
  clear F1 F2 F3 F4 hs;generalize S j = s at *;have h0n:(0:Int) < (n:Int):=by omega
  go_enter Tryz.func80,Tryz.ntmps80;go_wp2;refine wp_loop_rounds 1 ?_;rw [rounds_succ];go_wp2;go_loopw [6] (fun i wr=>∃ k:Nat,k≤j∧i = .int .i64 (k:Int)∧∃ d,wr = w.drewN d) (fun i _=>j - (intOf i).toNat)
  case atStart=>exact ⟨0,Nat.zero_le _,rfl,0,rfl⟩
  case round =>
   obtain ⟨k,hk,rfl,d,rfl⟩:=hrel;have hkn:(k:Int) < (n:Int):=by omega
   obtain ⟨b,off,rfl,hck⟩:=Hnd.out k (by omega);by_cases hlt:k < j
   ·obtain ⟨vk,kr⟩:=Hsg.out k (by omega)
    have hrun:=run_eql_ptr_other (P:=Tryz.prog) (w.drewN d) (a:=⟨N k,0,none⟩) (b:=⟨p,0,none⟩) Tryz.underlying117 hti htz (fun e=>F4'.out k hlt (by cases e;rfl)) kr HpN.out;clear kr;generalize N k = q at *;go_wp2;go_roundw
    case rel=>exact ⟨k+1,by omega,by go_num,_,rfl⟩
    case measure=>simp [intOf];omega
   ·obtain rfl:k = j:=by omega
    rw [F3'.out] at hck;have hrun:=run_eql_ptr_same (P:=Tryz.prog) (w.drewN d) ⟨p,0,none⟩ Tryz.underlying117 hti;go_wp2;go_ret;exact ⟨rfl,_,rfl⟩
namespace Mt
theorem YY {n:Nat} {S:Nat→Int} {C:Nat→Nat} {c k:Nat} (hk:k < n) (h1:C k = c) (h2:0≤S k) (h:∀ j,j < k→¬ (C j = c∧0≤S j)):sym n S C c = some k:=by
 unfold sym;rw [List.find?_range_eq_some];refine ⟨by simp [h1,h2],List.mem_range.2 hk,fun j hj=>?_⟩;have:=h j hj
 simp only [Bool.not_eq_true',Bool.and_eq_false_iff,decide_eq_false_iff_not];by_cases e:C j = c
 ·exact .inr fun h3=>this ⟨e,h3⟩
 ·exact .inl e
theorem V3 {n:Nat} {S:Nat→Int} {C:Nat→Nat} {c:Nat} (h:∀ j,j < n→¬ (C j = c∧0≤S j)):sym n S C c = none:=by
 unfold sym;rw [List.find?_eq_none];intro j hj;have:=h j (List.mem_range.1 hj)
 simpa using this
def zA (n:Nat) (S:Nat→Int) (C:Nat→Nat) (c:Nat):Int:=match sym n S C c with
 | some k=>(k:Int)
 | none=>-1
end Mt
theorem sJ {x n:Nat} {aN:Option Addr} {cN:Nat} {aC:Option Addr} {cC:Nat} {N:Nat→Nat} {C:Nat→Nat} {S:Nat→Int} {K:Nat→List Nat} {P:Nat→Nat→Nat} (w:World) (H:lh w x n aN cN aC cC N C S K P) (c:Nat) :
 Calls Tryz.prog 111 #[ptr x,.int .i64 (c:Int)] w fun e w'=>e = .returned (.int .i64 (Mt.zA n S C c))∧∃ m,w' = w.drewN m:=by
 have hn:=H.le;have hn':(n:Int)≤5000:=by omega
 have hc0:=H.c0;have hc1:=H.c1;have HH:=hid H;clear H;have Hs:=hid (fun k (hk:k < n) h1 h2 h=>(by unfold Mt.zA;rw [Mt.YY (S:=S) (C:=C) (c:=c) hk h1 h2 h]:Mt.zA n S C c = (k:Int)));have Hn:=hid (fun h=>(by unfold Mt.zA;rw [Mt.V3 (n:=n) (S:=S) (C:=C) (c:=c) h]:Mt.zA n S C c = -1));generalize Mt.zA n S C c = r at *;go_enter Tryz.func111,Tryz.ntmps111;go_wp2;go_loopw [5] (fun i wr=>∃ k:Nat,k≤n∧i = .int .i64 (k:Int)∧Hid (∀ j,j < k→¬ (C j = c∧0≤S j))∧∃ d,wr = w.drewN d) (fun i _=>n - (intOf i).toNat)
 case atStart=>exact ⟨0,Nat.zero_le _,rfl,fun j hj=>by omega,0,rfl⟩
 case round =>
  obtain ⟨k,hk,rfl,hno,d,rfl⟩:=hrel;by_cases hlt:k < n
  ·have hkn:(k:Int) < (n:Int):=by omega
   obtain ⟨b,off,rfl,hck⟩:=HH.out.cl k hlt;by_cases hC:C k = c
   ·obtain ⟨b',off',rfl,hnk⟩:=HH.out.nd k hlt
    obtain ⟨a1,c1,kr,_⟩:=HH.out.tr k hlt;have hsk:=kr.cell0;clear kr;have HC:=hid hC;have heq:((C k:Int) == (c:Int)) = true:=by rw [hC];simp
    clear hC;by_cases hs:0≤S k
    ·have hr:=Hs.out k hlt HC.out hs hno.out
     have Hr:=hid hr;clear hr;generalize S k = s at *;generalize C k = ck at *;generalize N k = q at *;go_wp2;go_ret;exact ⟨by rw [Hr.out];rfl,_,rfl⟩
    ·have hs':decide (0≤S k) = false:=by simpa using hs
     have YZ:Hid (∀ j,j < k+1→¬ (C j = c∧0≤S j)):=fun j hj h=>by
      by_cases e:j = k
      ·subst e;exact hs h.2
      ·exact hno.out j (by omega) h
     clear hs;generalize S k = s at *;generalize C k = ck at *;generalize N k = q at *;go_wp2;go_roundw
     case rel=>exact ⟨k+1,by omega,by go_num,YZ,_,rfl⟩
     case measure=>simp [intOf];omega
   ·have hne:((C k:Int) == (c:Int)) = false:=by simp;omega
    have YZ:Hid (∀ j,j < k+1→¬ (C j = c∧0≤S j)):=fun j hj h=>by
     by_cases e:j = k
     ·subst e;exact hC h.1
     ·exact hno.out j (by omega) h
    clear hC;generalize C k = ck at *;go_wp2;go_roundw
    case rel=>exact ⟨k+1,by omega,by go_num,YZ,_,rfl⟩
    case measure=>simp [intOf];omega
  ·obtain rfl:k = n:=by omega
   have Hr:=hid (Hn.out hno.out);go_wp2;go_ret;exact ⟨by rw [Hr.out];rfl,_,rfl⟩
theorem Ku (l:List Nat) (f:Nat→Bool) (i:Nat) (hi:i < l.length) (h:(l.take i).any f = false) (h2:f (l[i]?.getD 0) = false):(l.take (i+1)).any f = false:=by
 rw [List.take_succ_eq_append_getElem hi,List.any_append,h];rw [List.getElem?_eq_getElem hi] at h2;simpa using h2
theorem Mx (l:List Nat) (f:Nat→Bool) (i:Nat) (hi:i < l.length) (h2:f (l[i]?.getD 0) = true):l.any f = true:=by
 rw [List.getElem?_eq_getElem hi] at h2;exact List.any_eq_true.2 ⟨_,List.getElem_mem hi,h2⟩
theorem MB {x n:Nat} {aN:Option Addr} {cN:Nat} {aC:Option Addr} {cC:Nat} {N:Nat→Nat} {C:Nat→Nat} {S:Nat→Int} {K:Nat→List Nat} {P:Nat→Nat→Nat} (hroom:∀ k,k < n→(K k).length = Tm.room (S k)) (w:World) (H:lh w x n aN cN aC cC N C S K P) (f deep c:Nat) (hf:f+1+deep = n+1)
 (ih:∀ (c' d:Nat),Calls Tryz.prog 84 #[ptr x,.int .i64 (c':Int),.int .i64 ((deep:Int)+1)] (w.drewN d) fun e w'=>e = .returned (.bool (Mt.rnd n S K C f c'))∧∃ m,w' = (w.drewN d).drewN m) :
 Calls Tryz.prog 84 #[ptr x,.int .i64 (c:Int),.int .i64 (deep:Int)] w fun e w'=>e = .returned (.bool (Mt.rnd n S K C (f+1) c))∧∃ m,w' = w.drewN m:=by
 have hn:=H.le;have hn':(n:Int)≤5000:=by omega
 have hc0:=H.c0;have hc1:=H.c1;have hdn:(deep:Int)≤(n:Int):=by omega
 have hsy:=sJ w H c;have HH:=hid H;have IH:=hid ih;clear H ih;cases hy:Mt.sym n S C c with
 | none =>
  have hr:=hid (Mt.Kt (K:=K) (f:=f) hy);have hsi:Mt.zA n S C c = -1:=by unfold Mt.zA;rw [hy]
  rw [hsi] at hsy;clear hsi hy;generalize Mt.rnd n S K C (f+1) c = r at *;go_enter Tryz.func84,Tryz.ntmps84;go_wp2_with (first
   | (go_at_call 111;refine hsy.mono ?_;clear hsy;rintro e w1 ⟨rfl,d,rfl⟩))
  go_ret;exact ⟨by rw [hr.out];rfl,_,rfl⟩
 | some k =>
  obtain ⟨hk,e1,e2⟩:=Mt.kZ hy;have hr:=hid (Mt.ED (K:=K) (f:=f) hy);have hsi:Mt.zA n S C c = (k:Int):=by unfold Mt.zA;rw [hy]
  rw [hsi] at hsy;clear hsi hy e1 e2;generalize Mt.rnd n S K C (f+1) c = r at *;have hkn:(k:Int) < (n:Int):=by omega
  obtain ⟨b',off',rfl,hnk⟩:=HH.out.nd k hk;obtain ⟨a1,c1,kr,hparts⟩:=HH.out.tr k hk;have hp1:=kr.cell1;have Hp:=hid hparts;have hr2:=Tm.room_le (S k);have hrK:=hid (hroom k hk);clear kr hparts;obtain ⟨bC,Kv,rfl,_⟩:=HH.out.cl k hk;have Hps:=hid (fun i hi=>HH.out.ps k i hk hi);have Hfd:=hid (fun i hi=>HH.out.fd k i hk hi);have Hnd:=hid (fun d i hi=>by
   obtain ⟨v,hv⟩:=HH.out.ps k i hk hi;exact IW (x:=x) (w.drewN d) (P k i) ((K k)[i]?.getD 0) HH.out.c0 HH.out.nd (fun k hk=>by obtain ⟨a,c,h,_⟩:=HH.out.tr k hk;exact ⟨_,h⟩) HH.out.le hv (HH.out.fd k i hk hi))
  generalize hrm:Tm.room (S k) = rm at *;clear hrm;have afM:(rm:Int)≤2:=by omega
  generalize XC:K k = Kk at *;clear XC;go_enter Tryz.func84,Tryz.ntmps84;go_wp2_with (first
   | (go_at_call 111;refine hsy.mono ?_;clear hsy;rintro e w1 ⟨rfl,d,rfl⟩))
  go_loopw [8] (fun i wr=>∃ j:Nat,j≤rm∧i = .int .i64 (j:Int)∧Hid ((Kk.take j).any (fun i=>Mt.rnd n S K C f (C i)) = false)∧Hid (∃ d,wr = w.drewN d)) (fun i _=>rm - (intOf i).toNat)
  case atStart=>exact ⟨0,Nat.zero_le _,rfl,by simp [Hid],_,rfl⟩
  case round =>
   obtain ⟨j,hj,rfl,hno,hwr⟩:=hrel;have h0r:wr.cell? ⟨x,0,none⟩ = some (.slice (some ⟨b',off',none⟩) n cN):=by obtain ⟨d,e⟩:=hwr;rw [e];exact hc0
   have Y0:wr.cell? ⟨x,1,none⟩ = some (.slice (some ⟨bC,Kv,none⟩) n cC):=by obtain ⟨d,e⟩:=hwr;rw [e];exact hc1
   have hnr:wr.cell? ⟨b',off'+k,none⟩ = some (ptr (N k)):=by obtain ⟨d,e⟩:=hwr;rw [e];exact hnk
   have hpr:wr.cell? ⟨N k,1,none⟩ = some (.slice a1 rm c1):=by obtain ⟨d,e⟩:=hwr;rw [e];exact hp1
   by_cases hlt:j < rm
   ·have hjr:(j:Int) < (rm:Int):=by omega
    obtain ⟨b,off,rfl,hcj⟩:=Hp.out j hlt;obtain ⟨hin,_⟩:=Hfd.out j hlt;obtain ⟨_,_,e,hcl⟩:=HH.out.cl _ hin;cases e;have hin':((Kk[j]?.getD 0:Nat):Int) < (n:Int):=by omega
    have Y2:=hid (Mx Kk (fun i=>Mt.rnd n S K C f (C i)) j (by rw [hrK.out];exact hlt));have TQ:=hid (Ku Kk (fun i=>Mt.rnd n S K C f (C i)) j (by rw [hrK.out];exact hlt) hno.out);have V4:wr.cell? ⟨b,off+j,none⟩ = some (ptr (P k j)):=by obtain ⟨d,e⟩:=hwr;rw [e];exact hcj
    have Wd:wr.cell? ⟨bC,Kv+(Kk[j]?.getD 0),none⟩ = some (.int .i64 (C (Kk[j]?.getD 0):Int)):=by obtain ⟨d,e⟩:=hwr;rw [e];exact hcl
    have Kw:Hid (∀ m,Calls Tryz.prog 80 #[ptr x,ptr (P k j)] (wr.drewN m) fun e w'=>e = .returned (.int .i64 ((Kk[j]?.getD 0:Nat):Int))∧∃ m',w' = (wr.drewN m).drewN m'):=fun m=>by obtain ⟨d,e⟩:=hwr;have:=Hnd.out (d+m) j hlt;rw [← World.drewN_drewN,← e] at this;exact this
    generalize Kk[j]?.getD 0 = q at *;have hrec:Hid (∀ m,Calls Tryz.prog 84 #[ptr x,.int .i64 (C q:Int),.int .i64 ((deep:Int)+1)] (wr.drewN m) fun e w'=>e = .returned (.bool (Mt.rnd n S K C f (C q)))∧∃ m',w' = (wr.drewN m).drewN m'):=fun m=>by obtain ⟨d,e⟩:=hwr;have:=IH.out (C q) (d+m);rw [← World.drewN_drewN,← e] at this;exact this
    have HQ:Hid (∀ m,∃ d,wr.drewN m = w.drewN d):=fun m=>by obtain ⟨d,e⟩:=hwr;exact ⟨_,by rw [e];exact World.drewN_drewN _ _ _⟩
    clear hc0 hc1 hnk hp1 hcj hcl;cases hq:Mt.rnd n S K C f (C q) with
    | true =>
     rw [hq] at hrec;have hh:=hid (Y2.out hq);clear Y2 TQ hq;generalize C q = cq at *;generalize P k j = pj at *;go_wp2;go_quiet ((first
      | (go_at_call 80;exact Calls.quiet_of (Kw.out _))
      | (go_at_call 84;exact Calls.quiet_of (hrec.out _))))
     go_wp2;go_ret;exact ⟨by rw [hr.out,hh.out];rfl,HQ.out _⟩
    | false =>
     rw [hq] at hrec;have hh:=hid (TQ.out hq);clear Y2 TQ hq;generalize C q = cq at *;generalize P k j = pj at *;go_wp2;go_quiet ((first
      | (go_at_call 80;exact Calls.quiet_of (Kw.out _))
      | (go_at_call 84;exact Calls.quiet_of (hrec.out _))))
     go_wp2;go_roundw
     case rel=>exact ⟨j+1,by omega,by go_num,hh,HQ.out _⟩
     case measure=>simp [intOf];omega
   ·obtain rfl:j = rm:=by omega
    have hall:=hid (show (Kk.any fun i=>Mt.rnd n S K C f (C i)) = false by have:=hno.out;rw [← hrK.out,List.take_length] at this;exact this);go_wp2;go_ret;exact ⟨by rw [hr.out,hall.out];rfl,hwr⟩
theorem Qx {x n:Nat} {aN:Option Addr} {cN:Nat} {aC:Option Addr} {cC:Nat} {N:Nat→Nat} {C:Nat→Nat} {S:Nat→Int} {K:Nat→List Nat} {P:Nat→Nat→Nat} (hroom:∀ k,k < n→(K k).length = Tm.room (S k)):∀ (f deep c:Nat) (w:World),lh w x n aN cN aC cC N C S K P→f+deep = n+1 →
 Calls Tryz.prog 84 #[ptr x,.int .i64 (c:Int),.int .i64 (deep:Int)] w fun e w'=>e = .returned (.bool (Mt.rnd n S K C f c))∧∃ m,w' = w.drewN m:=by
 intro f;induction f with
 | zero =>
  intro deep c w H hf;have hn:=H.le;have hc0:=H.c0;have hd:(n:Int) < (deep:Int):=by omega
  clear H;rw [show Mt.rnd n S K C 0 c = true from rfl];go_enter Tryz.func84,Tryz.ntmps84;go_wp2;go_ret;exact ⟨rfl,0,rfl⟩
 | succ f ih =>
  intro deep c w H hf;refine MB hroom w H f deep c hf fun c' d=>?_
  have:=ih (deep+1) c' (w.drewN d) (H.drewN d) (by omega)
  rw [show ((deep+1:Nat):Int) = (deep:Int)+1 from by omega] at this;exact this
section
theorem Gn {W W':World} (e:W'.heap = W.heap) (p:Addr):W'.cell? p = W.cell? p:=by simp only [World.cell?,e]
theorem lh.keep {W W':World} {x n:Nat} {aN:Option Addr} {cN:Nat} {aC:Option Addr} {cC:Nat} {N:Nat→Nat} {C:Nat→Nat} {S:Nat→Int} {K:Nat→List Nat} {P:Nat→Nat→Nat} (h:lh W x n aN cN aC cC N C S K P) (hk:∀ k,k < W.heap.size→W'.heap[k]? = W.heap[k]?):lh W' x n aN cN aC cC N C S K P:=by
 have hc:∀ (p:Addr) v,W.cell? p = some v→W'.cell? p = some v:=fun p v hv=>by
  have hlt:p.block < W.heap.size:=lt_of_cell hv;rw [World.cell?_of_block (hk p.block hlt),hv]
 refine ⟨hc _ _ h.c0,hc _ _ h.c1,fun k hk'=>?_,fun k hk'=>?_,fun k hk'=>?_,fun k i hk' hi=>?_,h.fd,h.le⟩
 ·obtain ⟨b,off,e,h1⟩:=h.nd k hk';exact ⟨b,off,e,hc _ _ h1⟩
 ·obtain ⟨b,off,e,h1⟩:=h.cl k hk';exact ⟨b,off,e,hc _ _ h1⟩
 ·obtain ⟨a,c,h1,h2⟩:=h.tr k hk'
  exact ⟨a,c,(hk _ h1.lt).trans h1,fun i hi=>by obtain ⟨b,off,e,h3⟩:=h2 i hi;exact ⟨b,off,e,hc _ _ h3⟩⟩
 ·obtain ⟨v,h1⟩:=h.ps k i hk' hi;exact ⟨v,(hk _ h1.lt).trans h1⟩
theorem lh.heap {W W':World} {x n:Nat} {aN:Option Addr} {cN:Nat} {aC:Option Addr} {cC:Nat} {N:Nat→Nat} {C:Nat→Nat} {S:Nat→Int} {K:Nat→List Nat} {P:Nat→Nat→Nat} (h:lh W x n aN cN aC cC N C S K P) (e:W'.heap = W.heap):lh W' x n aN cN aC cC N C S K P:=h.keep fun k _=>by rw [e]
theorem lh.below {W W':World} {x n:Nat} {aN:Option Addr} {cN:Nat} {aC:Option Addr} {cC:Nat} {N:Nat→Nat} {C:Nat→Nat} {S:Nat→Int} {K:Nat→List Nat} {P:Nat→Nat→Nat} (h:lh W x n aN cN aC cC N C S K P) (hB:Below W.heap.size W W'):lh W' x n aN cN aC cC N C S K P:=h.keep hB.block
theorem lh.node {W:World} {x n:Nat} {aN:Option Addr} {cN:Nat} {aC:Option Addr} {cC:Nat} {N:Nat→Nat} {C:Nat→Nat} {S:Nat→Int} {K:Nat→List Nat} {P:Nat→Nat→Nat} (h:lh W x n aN cN aC cC N C S K P) {k i:Nat} (hk:k < n) (hi:i < Tm.room (S k)) :
 Calls Tryz.prog 80 #[ptr x,ptr (P k i)] W fun e w'=>e = .returned (.int .i64 (((K k)[i]?.getD 0:Nat):Int))∧∃ m,w' = W.drewN m:=by
 obtain ⟨v,hv⟩:=h.ps k i hk hi;exact IW (x:=x) W (P k i) ((K k)[i]?.getD 0) h.c0 h.nd (fun k hk=>by obtain ⟨a,c,h,_⟩:=h.tr k hk;exact ⟨_,h⟩) h.le hv (h.fd k i hk hi)
def IX (w w':World) (e:Ending) (zs:List Int):Prop:=∃ v,e = .returned v∧Below w.heap.size w w'∧((zs.length≤30∧New w.heap.size w' v zs)∨(30 < zs.length∧v = .slice none 0 0))
theorem MC {x n:Nat} {aN:Option Addr} {cN:Nat} {aC:Option Addr} {cC:Nat} {N:Nat→Nat} {C:Nat→Nat} {S:Nat→Int} {K:Nat→List Nat} {P:Nat→Nat→Nat} (w:World) (H:lh w x n aN cN aC cC N C S K P) (c:Nat) (hy:Mt.sym n S C c = none) :
 Calls Tryz.prog 86 #[ptr x,.int .i64 (c:Int)] w fun e w'=>IX w w' e [Mt.bst S C c n]:=by
 have hn:=H.le;have hn':(n:Int)≤5000:=by omega
 have hc0:=H.c0;have hc1:=H.c1;have hsy:=sJ w H c;have hsi:Mt.zA n S C c = -1:=by unfold Mt.zA;rw [hy]
 rw [hsi] at hsy;have HH:=hid H;clear H hsi hy;go_enter Tryz.func86,Tryz.ntmps86;go_wp2_with (first
  | (go_at_call 111;refine hsy.mono ?_;clear hsy;rintro e w1 ⟨rfl,d,rfl⟩))
 go_loopw [6,7] (fun u i wr=>∃ k:Nat,k≤n∧i = .int .i64 (k:Int)∧u = .int .i64 (Mt.bst S C c k)∧wr = w.drewN d) (fun _ i _=>n - (intOf i).toNat)
 case atStart=>exact ⟨0,Nat.zero_le _,rfl,rfl,rfl⟩
 case round =>
  obtain ⟨k,hk,rfl,rfl,rfl⟩:=hrel;by_cases hlt:k < n
  ·have hkn:(k:Int) < (n:Int):=by omega
   obtain ⟨b,off,rfl,hck⟩:=HH.out.cl k hlt;obtain ⟨b',off',rfl,hnk⟩:=HH.out.nd k hlt;obtain ⟨a1,c1,kr,_⟩:=HH.out.tr k hlt;have hsk:=kr.cell0;clear kr;have hb:Hid (Mt.bst S C c (k+1) = if C k = c∧Mt.bst S C c k < S k then S k else Mt.bst S C c k):=rfl;have Hb0:Hid (Mt.bst S C c k = Mt.bst S C c k):=rfl;generalize hr0:Mt.bst S C c k = r0 at hb ⊢;clear hr0 Hb0;by_cases hC:C k = c
   ·have heq:((C k:Int) == (c:Int)) = true:=by rw [hC];simp
    have HC:=hid hC;clear hC;by_cases hs:r0 < S k
    ·have Hr:=hid (hb.out.trans (if_pos ⟨HC.out,hs⟩))
     clear hb;generalize S k = s at *;generalize C k = ck at *;generalize N k = q at *;go_wp2;go_roundw
     case rel=>exact ⟨k+1,by omega,by go_num,by rw [Hr.out],by first | rfl | trivial⟩
     case measure=>simp [intOf];omega
    ·have Hr:=hid (hb.out.trans (if_neg fun h=>hs h.2))
     have hs':decide (r0 < S k) = false:=by simpa using hs
     clear hb hs;generalize S k = s at *;generalize C k = ck at *;generalize N k = q at *;go_wp2;go_roundw
     case rel=>exact ⟨k+1,by omega,by go_num,by rw [Hr.out],by first | rfl | trivial⟩
     case measure=>simp [intOf];omega
   ·have hne:((C k:Int) == (c:Int)) = false:=by simp;omega
    have Hr:=hid (hb.out.trans (if_neg fun h=>hC h.1));clear hb hC;generalize S k = s at *;generalize C k = ck at *;generalize N k = q at *;go_wp2;go_roundw
    case rel=>exact ⟨k+1,by omega,by go_num,by rw [Hr.out],by first | rfl | trivial⟩
    case measure=>simp [intOf];omega
  ·obtain rfl:k = n:=by omega
   have hl0:=New.lit w.heap.size (w.drewN d) [Mt.bst S C c k] (Nat.le_refl _) (by unfold maxLen;simp);simp only [List.map_cons,List.map_nil,List.length_cons,List.length_nil,Nat.zero_add] at hl0;have hB0:Below w.heap.size w ((w.drewN d).alloc (.cells #[.int .i64 (Mt.bst S C c k)] 3)):=(below_drewN (Below.refl _ _) d).alloc (Nat.le_refl _) _;go_wp2;go_ret;exact ⟨_,rfl,hB0,.inl ⟨by simp,hl0⟩⟩
attribute [local go_sem ↓] Go.wp_at_zero Go.wp_at_succ
namespace Mt
def CQ (n:Nat) (S:Nat→Int) (K:Nat→List Nat) (C:Nat→Nat) (f:Nat) (l:List Nat) (j:Nat):List Int:=((l.take j).map fun i=>oI n S K C f (C i)).flatten
theorem Qy (n:Nat) (S:Nat→Int) (K:Nat→List Nat) (C:Nat→Nat) (f:Nat) (l:List Nat):CQ n S K C f l 0 = []:=rfl
theorem Qz {n:Nat} {S:Nat→Int} {K:Nat→List Nat} {C:Nat→Nat} {f:Nat} {l:List Nat} {j:Nat} (hj:j < l.length):CQ n S K C f l (j+1) = CQ n S K C f l j++oI n S K C f (C (l[j]?.getD 0)):=by
 unfold CQ;rw [List.take_succ_eq_append_getElem hj,List.map_append,List.flatten_append,List.getElem?_eq_getElem hj];simp
theorem TR {n:Nat} {S:Nat→Int} {K:Nat→List Nat} {C:Nat→Nat} {f:Nat} {l:List Nat} (j:Nat):(CQ n S K C f l j).length≤((l.map fun i=>oI n S K C f (C i)).flatten).length:=by
 unfold CQ;have h:(l.map fun i=>oI n S K C f (C i)).flatten = ((l.take j).map fun i=>oI n S K C f (C i)).flatten++((l.drop j).map fun i=>oI n S K C f (C i)).flatten:=by
  rw [← List.flatten_append,← List.map_append,List.take_append_drop]
 rw [h,List.length_append];omega
end Mt
theorem ME {x n:Nat} {aN:Option Addr} {cN:Nat} {aC:Option Addr} {cC:Nat} {N:Nat→Nat} {C:Nat→Nat} {S:Nat→Int} {K:Nat→List Nat} {P:Nat→Nat→Nat} (hroom:∀ k,k < n→(K k).length = Tm.room (S k)) (w:World) (H:lh w x n aN cN aC cC N C S K P) (f c k:Nat) (hy:Mt.sym n S C c = some k) (hpos:∀ i∈K k,0 < (Mt.oI n S K C f (C i)).length)
 (ih:∀ (i:Nat) (W:World),i∈K k→lh W x n aN cN aC cC N C S K P→Calls Tryz.prog 86 #[ptr x,.int .i64 (C i:Int)] W fun e w'=>IX W w' e (Mt.oI n S K C f (C i))) :
 Calls Tryz.prog 86 #[ptr x,.int .i64 (c:Int)] w fun e w'=>IX w w' e (S k :: ((K k).map fun i=>Mt.oI n S K C f (C i)).flatten):=by
 have hn:=H.le;have hn':(n:Int)≤5000:=by omega
 have hc0:=H.c0;have hc1:=H.c1;have hsy:=sJ w H c;have hsi:Mt.zA n S C c = (k:Int):=by unfold Mt.zA;rw [hy]
 obtain ⟨hk,_,_⟩:=Mt.kZ hy;rw [hsi] at hsy;have hkn:(k:Int) < (n:Int):=by omega
 obtain ⟨b',off',rfl,hnk⟩:=H.nd k hk;obtain ⟨a1,c1,kr,hparts⟩:=H.tr k hk;have hp0:=kr.cell0;have hp1:=kr.cell1;obtain ⟨bC,Kv,rfl,_⟩:=H.cl k hk;have hr2:=Tm.room_le (S k);have hrK:=hid (hroom k hk);have Hp:=hid hparts;have Hcl:=hid (fun i hi=>H.cl i hi);have Hfd:=hid (fun i hi=>H.fd k i hk hi);have acn:=hid (fun W (hW:lh W x n (some ⟨b',off',none⟩) cN (some ⟨bC,Kv,none⟩) cC N C S K P) i hi=>hW.node (k:=k) (i:=i) hk hi);have HH:=hid H;have IH:=hid ih;have afN:=hid hpos;clear H hsi hy ih hparts kr hpos;generalize hrm:Tm.room (S k) = rm at *;clear hrm;have afM:(rm:Int)≤2:=by omega
 have hl0:=New.lit w.heap.size w [S k] (Nat.le_refl _) (by unfold maxLen;simp);simp only [List.map_cons,List.map_nil,List.length_cons,List.length_nil,Nat.zero_add] at hl0;go_enter Tryz.func86,Tryz.ntmps86;go_wp2_with (first
  | (go_at_call 111;refine hsy.mono ?_;clear hsy;rintro e w1 ⟨rfl,d,rfl⟩))
 go_loopw [8,9] (fun u i wr=>∃ j:Nat,j≤rm∧i = .int .i64 (j:Int)∧Hid (New w.heap.size wr u (S k :: Mt.CQ n S K C f (K k) j))∧Hid ((S k :: Mt.CQ n S K C f (K k) j).length≤30)∧Hid (Below w.heap.size w wr)) (fun _ i _=>rm - (intOf i).toNat)
 case atStart=>exact ⟨0,Nat.zero_le _,rfl,hl0,by rw [Mt.Qy];simp [Hid],(below_drewN (Below.refl _ _) d).alloc (Nat.le_refl _) _⟩
 case round =>
  obtain ⟨j,hj,rfl,We,jD,hB⟩:=hrel;have hTr:=HH.out.below hB.out;have h0r:=hTr.c0;have Y0:=hTr.c1;have hBc:∀ (p:Addr) v,w.cell? p = some v→wr.cell? p = some v:=fun p v hv=>(hB.out.cell (p:=p) (lt_of_cell hv)).trans hv
  have hnr:=hBc _ _ hnk;have ale:=hBc _ _ hp0;have Y3:=hBc _ _ hp1;have HBc:=hid hBc;have HTr:=hid hTr;clear hBc hTr;obtain ⟨u1,uc,rfl,hIu,_⟩:=New.ints We.out;by_cases hlt:j < rm
  ·have hjr:(j:Int) < (rm:Int):=by omega
   obtain ⟨b,off,rfl,hcj⟩:=Hp.out j hlt;obtain ⟨hin,_⟩:=Hfd.out j hlt;obtain ⟨_,_,e,hcl⟩:=Hcl.out _ hin;cases e;have hin':(((K k)[j]?.getD 0:Nat):Int) < (n:Int):=by omega
   have V4:=HBc.out _ _ hcj;have Wd:=HBc.out _ _ hcl;have hjl:j < (K k).length:=by rw [hrK.out];exact hlt
   have Kw:=hid (fun W (e:W.heap = wr.heap)=>acn.out W (HTr.out.heap e) j hlt);have hsn:=hid (Mt.Qz (n:=n) (S:=S) (K:=K) (C:=C) (f:=f) hjl);have hmem:Hid ((K k)[j]?.getD 0∈K k):=by rw [List.getElem?_eq_getElem hjl];exact List.getElem_mem hjl
   have hrec:=hid (fun W (e:W.heap = wr.heap)=>IH.out _ W hmem.out (HTr.out.heap e));have hps:=afN.out _ hmem.out;have hle:=hid (Mt.TR (n:=n) (S:=S) (K:=K) (C:=C) (f:=f) (l:=K k) (j+1));clear hmem;generalize hq:(K k)[j]?.getD 0 = q at *;clear hq;have alf:=lt_of_cell Y3;have acp:=lt_of_cell h0r;have hblt:=lt_of_cell hnr;have alg:=lt_of_cell Wd;have hjlt:=lt_of_cell V4;generalize Mt.oI n S K C f (C q) = zs at *;generalize C q = cq at *;generalize P k j = pj at *;generalize Mt.CQ n S K C f (K k) j = pre at *;have hS:Hid (∀ W W':World,W.heap = wr.heap→Below W.heap.size W W'→W'.cell? ⟨x,0,none⟩ = some (.slice (some ⟨b',off',none⟩) n cN)∧W'.cell? ⟨x,1,none⟩ = some (.slice (some ⟨bC,Kv,none⟩) n cC)∧W'.cell? ⟨b',off'+k,none⟩ = some (ptr (N k))∧W'.cell? ⟨N k,1,none⟩ = some (.slice (some ⟨b,off,none⟩) rm c1)∧W'.cell? ⟨b,off+j,none⟩ = some (ptr pj)∧W'.cell? ⟨bC,Kv+q,none⟩ = some (.int .i64 (cq:Int))):=fun W W' e hb=>by
    have hc:∀ (p:Addr) v,wr.cell? p = some v→W'.cell? p = some v:=fun p v hv=>by
     have h1:W.cell? p = some v:=(Gn e p).trans hv;exact (hb.cell (p:=p) (lt_of_cell h1)).trans h1
    exact ⟨hc _ _ h0r,hc _ _ Y0,hc _ _ hnr,hc _ _ Y3,hc _ _ V4,hc _ _ Wd⟩
   go_wp2;go_region_held3 (fun w'=>w'.cell? ⟨x,0,none⟩ = some (.slice (some ⟨b',off',none⟩) n cN)∧w'.cell? ⟨x,1,none⟩ = some (.slice (some ⟨bC,Kv,none⟩) n cC)∧w'.cell? ⟨b',off'+k,none⟩ = some (ptr (N k))∧w'.cell? ⟨N k,1,none⟩ = some (.slice (some ⟨b,off,none⟩) rm c1)∧w'.cell? ⟨b,off+j,none⟩ = some (ptr pj)∧w'.cell? ⟨bC,Kv+q,none⟩ = some (.int .i64 (cq:Int)))
    (first | assumption | exact ⟨h0r,Y0,hnr,Y3,V4,Wd⟩) (first
    | (go_at_call 80;refine (Kw.out _ (by rfl)).mono ?_;rintro e w2 ⟨rfl,m2,rfl⟩)
    | (go_at_call 86;refine (hrec.out _ (by rfl)).mono ?_;rintro e w3 ⟨v3,rfl,hB3,hor⟩;have Dc:=hS.out _ _ (by rfl) hB3;obtain ⟨av,lv,cv,rfl⟩:∃ av lv cv,v3 = .slice av lv cv:=(by rcases hor with ⟨_,h⟩ | ⟨_,h⟩;exact New.slice3 h;exact ⟨_,_,_,h⟩);have Hor:=hid hor;clear hor;have HS3:=hid Dc;clear Dc))
   have hBw3:Hid (Below wr.heap.size wr w3):=⟨hB3.os,hB3.tape,hB3.output,hB3.size,hB3.block⟩;have hB4:=hid (hB.out.trans (hBw3.out.mono hB.out.size));have afO:=hid (We.out.below hBw3.out);clear hS hrec Kw hB3 HS3;rcases Hor.out with ⟨afP,iD⟩ | ⟨afP,e3⟩
   ·obtain ⟨g3,cv',e3,yC,hg1,hg2⟩:=New.ints iD
    obtain ⟨rfl,rfl,rfl⟩:av = g3∧lv = zs.length∧cv = cv':=by cases e3;exact ⟨rfl,rfl,rfl⟩
    obtain ⟨b3,o3,rfl,_⟩:=yC.at hps;have hpl:(pre.length:Int)+1≤30:=by have:=jD.out;simp only [List.length_cons] at this;omega
    have hzl:(zs.length:Int)≤30:=by omega
    have HN3:=hid iD;have HI3:=hid yC;clear e3 iD yC;have hrun:(binOp .eql 35 (.slice (some ⟨b3,o3,none⟩) zs.length cv) (.slice none 0 0)).run Tryz.prog w3 = .ok (.bool false) w3:=Lib.run_eql_slice_nil w3 _ _ _ _ _ _ _ Tryz.underlying35;by_cases ht:pre.length+1+zs.length≤30
    ·have ht':(pre.length:Int)+1+(zs.length:Int)≤30:=by omega
     go_wp2_with (at_builtin;go_loud (refine aK _ rfl _ _ rfl w.heap.size _ (S k :: pre) rfl afO.out _ zs _ rfl (by intro h;cases h) HI3.out (by simp only [List.length_cons];omega) (by have:=hB4.out.size;omega) ?_);intro v5 w5 mV gq)
     go_roundw
     case rel =>
      refine ⟨j+1,by omega,by go_num,?_,?_,hB4.out.trans gq⟩
      ·show New _ _ _ _
       rw [hsn.out];exact mV
      ·show _≤_
       rw [hsn.out];simp only [List.length_cons,List.length_append];omega
     case measure=>simp [intOf];omega
    ·have ht':30 < (pre.length:Int)+1+(zs.length:Int):=by omega
     go_wp2;go_ret;refine ⟨_,rfl,hB4.out,.inr ⟨?_,rfl⟩⟩;have:=hle.out
     rw [hsn.out] at this;simp only [List.length_cons,List.length_append] at this ⊢;omega
   ·obtain ⟨rfl,rfl,rfl⟩:av = none∧lv = 0∧cv = 0:=by cases e3;exact ⟨rfl,rfl,rfl⟩
    clear e3;have hrun:(binOp .eql 35 (.slice none 0 0) (.slice none 0 0)).run Tryz.prog w3 = .ok (.bool true) w3:=Lib.run_eql_slice_nil w3 _ _ _ _ _ _ _ Tryz.underlying35;go_wp2;go_ret;refine ⟨_,rfl,hB4.out,.inr ⟨?_,rfl⟩⟩;have:=hle.out
    rw [hsn.out] at this;simp only [List.length_cons,List.length_append] at this ⊢;omega
  ·obtain rfl:j = rm:=by omega
   have hall:Hid (Mt.CQ n S K C f (K k) j = ((K k).map fun i=>Mt.oI n S K C f (C i)).flatten):=by
    show Mt.CQ n S K C f (K k) j = _;unfold Mt.CQ;rw [← hrK.out,List.take_length]
   go_wp2;go_ret;refine ⟨_,rfl,hB.out,.inl ⟨?_,?_⟩⟩
   ·rw [← hall.out];exact jD.out
   ·rw [← hall.out];exact We.out
theorem Mt.Pd {n:Nat} {S:Nat→Int} {K:Nat→List Nat} {C:Nat→Nat} {f c:Nat} (h:Mt.rnd n S K C f c = false):0 < (Mt.oI n S K C f c).length:=by
 cases f with
 | zero=>simp [Mt.rnd] at h
 | succ f =>
  cases hy:Mt.sym n S C c with
  | none=>rw [Mt.lg hy];simp
  | some k=>rw [Mt.jU hy];simp
theorem Ky {x n:Nat} {aN:Option Addr} {cN:Nat} {aC:Option Addr} {cC:Nat} {N:Nat→Nat} {C:Nat→Nat} {S:Nat→Int} {K:Nat→List Nat} {P:Nat→Nat→Nat} (hroom:∀ k,k < n→(K k).length = Tm.room (S k)):∀ (f c:Nat) (W:World),Mt.rnd n S K C f c = false→lh W x n aN cN aC cC N C S K P →
 Calls Tryz.prog 86 #[ptr x,.int .i64 (c:Int)] W fun e w'=>IX W w' e (Mt.oI n S K C f c):=by
 intro f;induction f with
 | zero=>intro c W h;simp [Mt.rnd] at h
 | succ f ih =>
  intro c W h H;cases hy:Mt.sym n S C c with
  | none=>rw [Mt.lg hy];exact MC W H c hy
  | some k =>
   rw [Mt.jU hy];exact ME hroom W H f c k hy (fun i hi=>Mt.Pd (Mt.rz hy h i hi)) fun i W' hi HW=>ih _ W' (Mt.rz hy h i hi) HW
end
namespace Mt
def Cv (n:Nat) (C:Nat→Nat):List Int:=(List.range n).map fun k=>(C k:Int)
theorem fE (n:Nat) (C:Nat→Nat):(Cv n C).length = n:=by simp [Cv]
theorem Y4 {n:Nat} (C:Nat→Nat) {k:Nat} (h:k < n):(Cv n C)[k]?.getD 0 = (C k:Int):=by simp [Cv,h]
theorem Gp {n:Nat} {C D:Nat→Nat} (h:∀ k,k < n→C k = D k):Cv n C = Cv n D:=by
 unfold Cv;exact List.map_congr_left fun k hk=>by rw [h k (List.mem_range.1 hk)]
theorem Wh {n:Nat} {C D:Nat→Nat} {k:Nat} (h1:∀ j,j≠k→D j = C j):(Cv n C).set k (D k:Int) = Cv n D:=by
 refine List.ext_getElem (by rw [List.length_set,fE,fE]) fun i h2 h3=>?_
 rw [List.getElem_set];rw [fE] at h3;by_cases e:k = i
 ·subst e;rw [if_pos rfl];simp [Cv]
 ·rw [if_neg e];simp [Cv,h1 i fun e2=>e e2.symm]
def mid (C:Nat→Nat) (a b k:Nat):Nat→Nat:=fun j=>if j < k then tied C a b j else C j
theorem mid_zero (C:Nat→Nat) (a b:Nat):mid C a b 0 = C:=by funext j;unfold mid;rw [if_neg (by omega)]
theorem Kz (C:Nat→Nat) (a b k:Nat):mid C a b k k = C k:=by unfold mid;rw [if_neg (by omega)]
theorem EF (C:Nat→Nat) (a b k:Nat):mid C a b (k+1) k = tied C a b k:=by unfold mid;rw [if_pos (by omega)]
theorem KA (C:Nat→Nat) (a b k:Nat) {j:Nat} (h:j≠k):mid C a b (k+1) j = mid C a b k j:=by
 unfold mid;by_cases e:j < k
 ·rw [if_pos e,if_pos (by omega)]
 ·rw [if_neg e,if_neg (by omega)]
theorem Wi (C:Nat→Nat) (a b n:Nat):Cv n (mid C a b n) = Cv n (tied C a b):=Gp fun k hk=>by unfold mid;rw [if_pos hk]
end Mt
def jV (W:World) (x n:Nat) (aN:Option Addr) (cN g cC:Nat) (N:Nat→Nat) (C:Nat→Nat) (S:Nat→Int) (K:Nat→List Nat) (P:Nat→Nat→Nat):Prop :=
 g < W.heap.size∧(∀ W',aW W.heap.size g W W'→∀ C',(∀ k,k < n→W'.cell? ⟨g,k,none⟩ = some (.int .i64 (C' k:Int)))→lh W' x n aN cN (some ⟨g,0,none⟩) cC N C' S K P)∧New 0 W (.slice (some ⟨g,0,none⟩) n cC) (Mt.Cv n C)
theorem New.atG {base:Nat} {W:World} {g n c:Nat} {zs:List Int} (h:New base W (.slice (some ⟨g,0,none⟩) n c) zs) (hn:n = zs.length):(∀ j,j < n→W.cell? ⟨g,j,none⟩ = some (.int .i64 (zs[j]?.getD 0)))∧∀ j,W.frozen? ⟨g,j,none⟩ = false:=by
 by_cases h0:0 < zs.length
 ·obtain ⟨g',c',e,h1,h2⟩:=New.XB h h0
  cases e;exact ⟨fun j hj=>h1 j (by omega),h2⟩
 ·refine ⟨fun j hj=>by omega,fun j=>?_⟩
  rcases h.2 with ⟨e,_⟩ | ⟨g',c',cur,e,_,hg,_⟩
  ·cases e
  ·cases e
   simp [World.frozen?,hg]
theorem jV.ties {W:World} {x n:Nat} {aN:Option Addr} {cN g cC:Nat} {N:Nat→Nat} {C:Nat→Nat} {S:Nat→Int} {K:Nat→List Nat} {P:Nat→Nat→Nat} (h:jV W x n aN cN g cC N C S K P):lh W x n aN cN (some ⟨g,0,none⟩) cC N C S K P:=by
 obtain ⟨_,h1,h2⟩:=h;refine h1 W (aW.refl _ _ _) C fun k hk=>?_
 rw [(New.atG h2 (Mt.fE n C).symm).1 k hk,Mt.Y4 C hk]
theorem jV.keep {W W':World} {x n:Nat} {aN:Option Addr} {cN g cC:Nat} {N:Nat→Nat} {C C':Nat→Nat} {S:Nat→Int} {K:Nat→List Nat} {P:Nat→Nat→Nat} (h:jV W x n aN cN g cC N C S K P) (hK:aW W.heap.size g W W') (hN:New 0 W' (.slice (some ⟨g,0,none⟩) n cC) (Mt.Cv n C')):jV W' x n aN cN g cC N C' S K P :=
 ⟨by have:=h.1;have:=hK.size;omega,fun W2 hK2 C2 hC2=>h.2.1 W2 (hK.trans (hK2.mono hK.size)) C2 hC2,hN⟩
theorem Pe {x n:Nat} {aN:Option Addr} {cN g cC:Nat} {N:Nat→Nat} {C:Nat→Nat} {S:Nat→Int} {K:Nat→List Nat} {P:Nat→Nat→Nat} (w:World) (H:jV w x n aN cN g cC N C S K P) (a b:Nat) (ha:a < n) (hb:b < n) :
 Calls Tryz.prog 82 #[ptr x,.int .i64 (a:Int),.int .i64 (b:Int)] w fun e w'=>(∃ v,e = .returned v)∧aW w.heap.size g w w'∧jV w' x n aN cN g cC N (Mt.tied C a b) S K P:=by
 have hT:=H.ties;have hn:=hT.le;have hn':(n:Int)≤5000:=by omega
 have hc1:=hT.c1;obtain ⟨_,_,e,Db⟩:=hT.cl a ha;cases e;obtain ⟨_,_,e,hcb⟩:=hT.cl b hb;cases e;have Vf:(a:Int) < (n:Int):=by omega
 have hbn:(b:Int) < (n:Int):=by omega
 rw [Nat.zero_add] at Db hcb;have HH:=hid H;have afR:=hid H.2.2;clear H hT;have HCa:Hid (∀ j,Mt.tied C a b j = if C j = C a then C b else C j):=fun j=>rfl
 generalize hfa:C a = fa at *;generalize Dl:C b = fb at *;clear hfa Dl;go_enter Tryz.func82,Tryz.ntmps82;go_wp2;go_quiet (fail)
 go_wp2;go_loopw [8] (fun i wr=>∃ k:Nat,k≤n∧i = .int .i64 (k:Int)∧Hid (New 0 wr (.slice (some ⟨g,0,none⟩) n cC) (Mt.Cv n (Mt.mid C a b k)))∧Hid (aW w.heap.size g w wr)) (fun i _=>n - (intOf i).toNat)
 case atStart=>exact ⟨0,Nat.zero_le _,rfl,by rw [Mt.mid_zero];exact afR,dA (aW.refl _ _ _) _⟩
 case round =>
  obtain ⟨k,hk,rfl,kr,XC⟩:=hrel;have hO:=hid (HH.out.keep XC.out kr.out);have Y0:=hO.out.ties.c1;by_cases hlt:k < n
  ·have hkn:(k:Int) < (n:Int):=by omega
   obtain ⟨_,_,e,hck⟩:=hO.out.ties.cl k hlt;cases e;rw [Nat.zero_add,Mt.Kz] at hck;have VT:=(New.atG kr.out (Mt.fE _ _).symm).2 k;by_cases hC:C k = fa
   ·have heq:((C k:Int) == (fa:Int)) = true:=by rw [hC];simp
    have hD:Hid (Mt.tied C a b k = fb):=(HCa.out k).trans (if_pos hC);clear hC;generalize C k = ck at *;go_wp2;go_roundw
    case rel =>
     refine ⟨k+1,by omega,by go_num,?_,XC.out.trans (aW.jg (dz wr g k _) XC.out.size)⟩;have h:=kr.out.set (Mt.fE _ _).symm k (fb:Int);rw [← hD.out,← Mt.EF,Mt.Wh (fun j hj=>Mt.KA C a b k hj),Mt.EF,hD.out] at h;exact h
    case measure=>simp [intOf];omega
   ·have hne:((C k:Int) == (fa:Int)) = false:=by simp;omega
    have hD:Hid (Mt.tied C a b k = C k):=(HCa.out k).trans (if_neg hC);clear hC;have hst:Hid (Mt.Cv n (Mt.mid C a b (k+1)) = Mt.Cv n (Mt.mid C a b k)):=Mt.Gp fun j _=>by
     by_cases e:j = k
     ·subst e;rw [Mt.EF,hD.out,Mt.Kz]
     ·exact Mt.KA C a b k e
    generalize C k = ck at *;go_wp2;go_roundw
    case rel=>exact ⟨k+1,by omega,by go_num,by rw [hst.out];exact kr,XC⟩
    case measure=>simp [intOf];omega
  ·obtain rfl:k = n:=by omega
   have hN':=kr.out;rw [Mt.Wi] at hN';have HN':=hid hN';clear hN';go_wp2;first | go_end0 | refine bodyPost_ret (results_none rfl _ _ _) rfl ?_
   exact ⟨⟨_,rfl⟩,XC.out,HH.out.keep XC.out HN'.out⟩
section
namespace Mt
open Wb (App TermSb Same Sb)
structure qM (n:Nat) (Z:Nat→List Int) (C0 C1:Nat→Nat) (ag:Bool) (C:Nat→Nat):Prop where
 lt:∀ k,k < n→C k < n
 coarse:∀ i j,i < n→j < n→C0 i = C0 j→C i = C j
 sound:∀ θ,TermSb θ→iY n Z C0 θ→iY n Z C θ
 same:ag = false→C = C1
 less:ag = true→cls n C < cls n C1
theorem qM.le {n:Nat} {Z:Nat→List Int} {C0 C1:Nat→Nat} {ag:Bool} {C:Nat→Nat} (H:qM n Z C0 C1 ag C):cls n C≤cls n C1:=by
 cases ag with
 | false=>rw [H.same rfl];exact Nat.le_refl _
 | true=>have:=H.less rfl;omega
theorem qM.begin {n:Nat} {Z:Nat→List Int} {C0 C1:Nat→Nat} {ag:Bool} {C:Nat→Nat} (H:qM n Z C0 C1 ag C):qM n Z C0 C false C:=⟨H.lt,H.coarse,H.sound,fun _=>rfl,fun h=>by cases h⟩
theorem qM.start {n:Nat} (Z:Nat→List Int) {C:Nat→Nat} (h:∀ k,k < n→C k < n):qM n Z C C false C:=⟨h,fun _ _ _ _ e=>e,fun _ _ R=>R,fun _=>rfl,fun h=>by cases h⟩
theorem qM.parts {n:Nat} {S:Nat→Int} {K:Nat→List Nat} {Z:Nat→List Int} (G:Dk n S K Z) {C0 C1:Nat→Nat} {ag:Bool} {C:Nat→Nat} (H:qM n Z C0 C1 ag C) {a b:Nat} (ha:a < n) (hb:b < n) (sa:0≤S a) (sb:0≤S b) (e:C a = C b):∀ θ,TermSb θ→iY n Z C0 θ→S a = S b∧∀ i,i < Tm.room (S a)→App θ (Z ((K a)[i]?.getD 0)) = App θ (Z ((K b)[i]?.getD 0)) :=
 fun θ hθ R=>G.eq hθ ha hb sa sb (H.sound θ hθ R a b ha hb e)
theorem qM.tie {n:Nat} {S:Nat→Int} {K:Nat→List Nat} {Z:Nat→List Int} (G:Dk n S K Z) {C0 C1:Nat→Nat} {ag:Bool} {C:Nat→Nat} (H:qM n Z C0 C1 ag C) {a b i:Nat} (ha:a < n) (hb:b < n) (sa:0≤S a) (sb:0≤S b) (e:C a = C b) (hi:i < Tm.room (S a)) (li:(K a)[i]?.getD 0 < n) (lj:(K b)[i]?.getD 0 < n) (hne:C ((K a)[i]?.getD 0)≠C ((K b)[i]?.getD 0)) :
 qM n Z C0 C1 true (tied C ((K a)[i]?.getD 0) ((K b)[i]?.getD 0)):=by
 refine ⟨O8 H.lt lj,fun i j hi hj e=>Ca _ _ (H.coarse i j hi hj e),fun θ hθ R=>(H.sound θ hθ R).tie li lj ((H.parts G ha hb sa sb e θ hθ R).2 i hi),(fun h=>by cases h),fun _=>?_⟩;have h1:=VX H.lt li lj hne;have h2:=H.le;omega
theorem QC {n:Nat} {C D:Nat→Nat} (h:∀ k,k < n→C k = D k):cls n C = cls n D:=by
 unfold cls;congr 1;refine List.filter_congr fun c _=>?_
 rw [Bool.eq_iff_iff,kV,kV];constructor
 ·rintro ⟨k,hk,e⟩;exact ⟨k,hk,by rw [← h k hk];exact e⟩
 ·rintro ⟨k,hk,e⟩;exact ⟨k,hk,by rw [h k hk];exact e⟩
def rdC (g:Nat) (W:World) (k:Nat):Nat:=match W.cell? ⟨g,k,none⟩ with
 | some (.int _ z)=>z.toNat
 | _=>0
def left (n g:Nat) (v:Value) (W:World):Nat:=2 * cls n (rdC g W)+(match v with | .bool true=>1 | _=>0)
end Mt
theorem jV.drewN {W:World} {x n:Nat} {aN:Option Addr} {cN g cC:Nat} {N:Nat→Nat} {C:Nat→Nat} {S:Nat→Int} {K:Nat→List Nat} {P:Nat→Nat→Nat} (h:jV W x n aN cN g cC N C S K P) (d:Nat):jV (W.drewN d) x n aN cN g cC N C S K P:=h.keep (dA (aW.refl _ _ _) d) (h.2.2.drewN d)
theorem jV.cls {W:World} {x n:Nat} {aN:Option Addr} {cN g cC:Nat} {N:Nat→Nat} {C:Nat→Nat} {S:Nat→Int} {K:Nat→List Nat} {P:Nat→Nat→Nat} (h:jV W x n aN cN g cC N C S K P):Mt.cls n (Mt.rdC g W) = Mt.cls n C:=by
 refine Mt.QC fun k hk=>?_
 obtain ⟨_,_,e,hc⟩:=h.ties.cl k hk;cases e;rw [Nat.zero_add] at hc;unfold Mt.rdC;rw [hc];exact Int.toNat_natCast _
def TS (w w':World) (e:Ending) (x n:Nat) (aN:Option Addr) (cN g cC:Nat) (N:Nat→Nat) (C0:Nat→Nat) (S:Nat→Int) (K:Nat→List Nat) (P:Nat→Nat→Nat) (Z:Nat→List Int):Prop :=
 aW w.heap.size g w w'∧((e = .returned (.bool false)∧∀ θ,Wb.TermSb θ→¬ Mt.iY n Z C0 θ) ∨
  (e = .returned (.bool true)∧∃ C,jV w' x n aN cN g cC N C S K P∧(∀ k,k < n→C k < n)∧(∀ i j,i < n→j < n→C0 i = C0 j→C i = C j)∧(∀ θ,Wb.TermSb θ→Mt.iY n Z C0 θ→Mt.iY n Z C θ)∧∀ a b,a < n→b < n→Mt.Shut S K C a b))
theorem Mt.Shut.symm {S:Nat→Int} {K:Nat→List Nat} {C:Nat→Nat} {a b:Nat} (h:Mt.Shut S K C a b):Mt.Shut S K C b a:=fun e h1 h2=>by
 obtain ⟨e1,e2⟩:=h e.symm h2 h1;exact ⟨e1.symm,fun i hi=>(e2 i (by rw [e1];exact hi)).symm⟩
theorem Mt.Shut.all {n:Nat} {S:Nat→Int} {K:Nat→List Nat} {C:Nat→Nat} (h:∀ a b,a < n→b < a→Mt.Shut S K C a b):∀ a b,a < n→b < n→Mt.Shut S K C a b:=fun a b ha hb=>by
 rcases Nat.lt_trichotomy b a with h1 | rfl | h1
 ·exact h a b ha h1
 ·exact fun _ _ _=>⟨rfl,fun _ _=>rfl⟩
 ·exact (h b a hb h1).symm
theorem MF {x n:Nat} {aN:Option Addr} {cN g cC:Nat} {N:Nat→Nat} {C0:Nat→Nat} {S:Nat→Int} {K:Nat→List Nat} {P:Nat→Nat→Nat} {Z:Nat→List Int} (G:Mt.Dk n S K Z) (w:World) (H:jV w x n aN cN g cC N C0 S K P) (acr:∀ k,k < n→C0 k < n) (hn0:0 < n) :
 Calls Tryz.prog 83 #[ptr x] w fun e w'=>TS w w' e x n aN cN g cC N C0 S K P Z:=by
 have hn:=H.ties.le;have hn':(n:Int)≤5000:=by omega
 obtain ⟨bN,oN,rfl,_⟩:=H.ties.nd 0 hn0;have HG:=hid G;have hI0:=hid (Mt.qM.start Z acr);have HO:=hid H;clear H acr G;go_enter Tryz.func83,Tryz.ntmps83;go_wp2;go_loopw [3] (fun v wr=>∃ (ag:Bool) (C:Nat→Nat),v = .bool ag∧Hid (Mt.qM n Z C0 C false C)∧Hid (ag = false→∀ a b,a < n→b < a→Mt.Shut S K C a b)∧Hid (aW w.heap.size g w wr)∧Hid (jV wr x n (some ⟨bN,oN,none⟩) cN g cC N C S K P)) (fun v wr=>Mt.left n g v wr)
 case atStart=>exact ⟨true,C0,rfl,hI0,(fun h=>by cases h),aW.refl _ _ _,HO⟩
 case round =>
  obtain ⟨ag,C1,rfl,hI1,acs,hK1,Wj⟩:=hrel;have hleft:Hid (Mt.left n g (.bool ag) wr = 2 * Mt.cls n C1+(match Value.bool ag with | .bool true=>1 | _=>0)):=by show Mt.left n g (.bool ag) wr = _;unfold Mt.left;rw [Wj.out.cls]
  cases ag with
  | false =>
   go_wp2;go_ret;exact ⟨hK1.out,.inr ⟨rfl,C1,Wj.out,hI1.out.lt,hI1.out.coarse,hI1.out.sound,Mt.Shut.all (acs.out (by first | rfl | trivial))⟩⟩
  | true =>
   clear acs;go_wp2;go_loopw [3,4] (fun v i wr=>∃ (ag:Bool) (a:Nat) (C:Nat→Nat),v = .bool ag∧i = .int .i64 (a:Int)∧a≤n∧Hid (Mt.qM n Z C0 C1 ag C)∧Hid (ag = false→∀ a' b',a' < a→b' < a'→Mt.Shut S K C1 a' b')∧Hid (aW w.heap.size g w wr)∧Hid (jV wr x n (some ⟨bN,oN,none⟩) cN g cC N C S K P)) (fun _ i _=>n - (intOf i).toNat)
   case atStart=>exact ⟨false,0,C1,rfl,rfl,Nat.zero_le _,hI1,fun _ a' b' h=>by omega,hK1,Wj⟩
   case round =>
    obtain ⟨ag,a,C2,rfl,rfl,ha,hI2,acu,hK2,hO2⟩:=hrel;have h0r:=hO2.out.ties.c0;by_cases Vf:a < n
    ·have alj:(a:Int) < (n:Int):=by omega
     have hkn:=(HG.out.known a Vf);go_wp2;go_loopw [3,5] (fun v i wr=>∃ (ag:Bool) (b:Nat) (C:Nat→Nat),v = .bool ag∧i = .int .i64 (b:Int)∧b≤a∧Hid (Mt.qM n Z C0 C1 ag C)∧Hid (ag = false→∀ a' b',b' < a'→(a' < a∨(a' = a∧b' < b))→Mt.Shut S K C1 a' b')∧Hid (aW w.heap.size g w wr)∧Hid (jV wr x n (some ⟨bN,oN,none⟩) cN g cC N C S K P)) (fun _ i _=>a - (intOf i).toNat)
     case atStart=>exact ⟨ag,0,C2,rfl,rfl,Nat.zero_le _,hI2,fun h a' b' h1 h2=>acu.out h a' b' (by omega) h1,hK2,hO2⟩
     case round =>
      obtain ⟨ag,b,C3,rfl,rfl,hb,yC,Y5,hK3,hO3⟩:=hrel;have hT:=hO3.out.ties;have h0r:=hT.c0;have Y0:=hT.c1;by_cases Rk:b < a
      ·have alk:(b:Int) < (a:Int):=by omega
       have hbn:b < n:=by omega
       have alm:(b:Int) < (n:Int):=by omega
       obtain ⟨_,_,e,hna⟩:=hT.nd a Vf;cases e;obtain ⟨_,_,e,hnb⟩:=hT.nd b hbn;cases e;obtain ⟨_,_,e,Db⟩:=hT.cl a Vf;cases e;obtain ⟨_,_,e,hcb⟩:=hT.cl b hbn;cases e;rw [Nat.zero_add] at Db hcb;obtain ⟨pa,qa,hNa,Vg⟩:=hT.tr a Vf;obtain ⟨pb,qb,hNb,hpb⟩:=hT.tr b hbn;have hsa:=hNa.cell0;have hsb:=hNb.cell0;have hla:=hid hNa.cell1;have hlb:=hid hNb.cell1;have Hpa:=hid Vg;have Hpb:=hid hpb;have HT:=hid hT;have Wl:=hid (fun d=>hO3.out.drewN d);have TT:=hid (fun d=>dA hK3.out d);clear hNa hNb Vg hpb hT;have hsk:Hid (Mt.Shut S K C1 a b→ag = false→∀ a' b',b' < a'→(a' < a∨(a' = a∧b' < b+1))→Mt.Shut S K C1 a' b'):=fun hs h a' b' h1 h2=>by
        by_cases e:a' = a∧b' = b
        ·obtain ⟨rfl,rfl⟩:=e;exact hs
        ·exact Y5.out h a' b' h1 (by omega)
       by_cases hC:C3 a = C3 b
       ·have hneq:((C3 a:Int) != (C3 b:Int)) = false:=by rw [hC];simp
        by_cases hs1:S a < 0
        ·have hr:Hid (ag = false→∀ a' b',b' < a'→(a' < a∨(a' = a∧b' < b+1))→Mt.Shut S K C1 a' b'):=hsk.out fun _ h _=>by omega
         clear hC hla hlb hsk;go_wp2;go_quiet (fail)
         go_wp2;go_quiet (fail)
         go_wp2;go_roundw
         case rel=>exact ⟨ag,b+1,C3,rfl,by go_num,by omega,yC,hr,TT.out _,Wl.out _⟩
         case measure=>simp [intOf];omega
        ·have aln:decide (S a < 0) = false:=by simpa using hs1
         by_cases hs2:S b < 0
         ·have hr:Hid (ag = false→∀ a' b',b' < a'→(a' < a∨(a' = a∧b' < b+1))→Mt.Shut S K C1 a' b'):=hsk.out fun _ _ h=>by omega
          clear hC hla hlb hsk hs1;go_wp2;go_quiet (fail)
          go_wp2;go_quiet (fail)
          go_wp2;go_roundw
          case rel=>exact ⟨ag,b+1,C3,rfl,by go_num,by omega,yC,hr,TT.out _,Wl.out _⟩
          case measure=>simp [intOf];omega
         ·have alo:decide (S b < 0) = false:=by simpa using hs2
          have acv:0≤S a:=by omega
          have acw:0≤S b:=by omega
          have hparts:=hid (yC.out.parts HG.out Vf hbn acv acw hC);by_cases hs:S a = S b
          ·have hsn:(S a != S b) = false:=by simpa using hs
           have hroom:Tm.room (S b) = Tm.room (S a):=by rw [hs]
           have XD:=hid hroom;have afU:=hid hs;have Hsk:Hid ((∀ i,i < Tm.room (S a)→C1 ((K a)[i]?.getD 0) = C1 ((K b)[i]?.getD 0))→(∀ a' b',b' < a'→(a' < a∨(a' = a∧b' < b))→Mt.Shut S K C1 a' b')→∀ a' b',b' < a'→(a' < a∨(a' = a∧b' < b+1))→Mt.Shut S K C1 a' b'):=fun h h0 a' b' h1 h2=>by
            by_cases e:a' = a∧b' = b
            ·obtain ⟨rfl,rfl⟩:=e;exact fun _ _ _=>⟨afU.out,h⟩
            ·exact h0 a' b' h1 (by omega)
           have MG:=hid hC;have hr2:=Tm.room_le (S a);clear hC hla hlb hsk hs1 hs2 hs hparts hroom;go_wp2;go_quiet (fail)
           go_wp2;go_quiet (fail)
           go_wp2;go_quiet (fail)
           go_wp2;go_loopw [3,8] (fun v i wr=>∃ (ag:Bool) (k:Nat) (C:Nat→Nat),v = .bool ag∧i = .int .i64 (k:Int)∧k≤Tm.room (S a)∧Hid (Mt.qM n Z C0 C1 ag C)∧Hid (C a = C b)∧Hid (ag = false→(∀ a' b',b' < a'→(a' < a∨(a' = a∧b' < b))→Mt.Shut S K C1 a' b')∧∀ i,i < k→C1 ((K a)[i]?.getD 0) = C1 ((K b)[i]?.getD 0))∧Hid (aW w.heap.size g w wr)∧Hid (jV wr x n (some ⟨bN,oN,none⟩) cN g cC N C S K P)) (fun _ i _=>Tm.room (S a) - (intOf i).toNat)
           case atStart=>exact ⟨ag,0,C3,rfl,rfl,Nat.zero_le _,yC,MG,fun h=>⟨Y5.out h,fun i hi=>by omega⟩,dA (dA (TT.out _) _) _,((Wl.out _).drewN _).drewN _⟩
           case round =>
            clear h0r Y0 hna hnb Db hcb hsa hsb;obtain ⟨ag,k,C4,rfl,rfl,hk,U6,hC4,Wm,hK4,hO4⟩:=hrel;have hT:=hO4.out.ties;have h0r:=hT.c0;have Y0:=hT.c1;obtain ⟨pa,qa,hNa,Vg⟩:=hT.tr a Vf;obtain ⟨pb,qb,hNb,hpb⟩:=hT.tr b hbn;have hla:=hNa.cell1;have hlb:=hNb.cell1;rw [XD.out] at hlb hpb;have Hpa:=hid Vg;have Hpb:=hid hpb;have HT:=hid hT;clear hNa hNb Vg hpb hT;by_cases hlt:k < Tm.room (S a)
            ·have hkr:(k:Int) < (Tm.room (S a):Int):=by omega
             obtain ⟨b1,o1,rfl,hc1⟩:=Hpa.out k hlt;obtain ⟨b2,o2,rfl,hc2⟩:=Hpb.out k hlt;have hk2:k < Tm.room (S b):=by rw [XD.out];exact hlt
             have hn1:=hid (fun m=>(HT.out.drewN m).node (k:=a) (i:=k) Vf hlt);have hn2:=hid (fun m=>(HT.out.drewN m).node (k:=b) (i:=k) hbn hk2);obtain ⟨li,_⟩:=HT.out.fd a k Vf hlt;obtain ⟨lj,_⟩:=HT.out.fd b k hbn hk2;obtain ⟨_,_,e,hci⟩:=HT.out.cl _ li;cases e;obtain ⟨_,_,e,hcj⟩:=HT.out.cl _ lj;cases e;rw [Nat.zero_add] at hci hcj;have htie:=hid (U6.out.tie HG.out (i:=k) Vf hbn acv acw hC4.out hlt li lj);have Y6:Hid (C4 ((K a)[k]?.getD 0) = C4 ((K b)[k]?.getD 0)→ag = false→(∀ a' b',b' < a'→(a' < a∨(a' = a∧b' < b))→Mt.Shut S K C1 a' b')∧∀ i,i < k+1→C1 ((K a)[i]?.getD 0) = C1 ((K b)[i]?.getD 0)):=fun e h=>by
              refine ⟨(Wm.out h).1,fun i hi=>?_⟩;by_cases e2:i = k
              ·subst e2
               rw [U6.out.same h] at e;exact e
              ·exact (Wm.out h).2 i (by omega)
             have li':(((K a)[k]?.getD 0:Nat):Int) < (n:Int):=by omega
             have lj':(((K b)[k]?.getD 0:Nat):Int) < (n:Int):=by omega
             generalize (K a)[k]?.getD 0 = i at *;generalize (K b)[k]?.getD 0 = j at *;by_cases hij:C4 i = C4 j
             ·have acx:((C4 i:Int) != (C4 j:Int)) = false:=by rw [hij];simp
              have hr:=hid (Y6.out hij);clear hij htie Y6;generalize P a k = pak at *;generalize P b k = pbk at *;go_wp2;go_quiet ((first | (go_at_call_of 80 (ptr pak);exact Calls.quiet_of (hn1.out _)) | (go_at_call_of 80 (ptr pbk);exact Calls.quiet_of (hn2.out _))))
              go_wp2;go_quiet (fail)
              go_wp2;go_roundw
              case rel=>exact ⟨ag,k+1,C4,rfl,by go_num,by omega,U6,hC4,hr,dA hK4.out _,hO4.out.drewN _⟩
              case measure=>simp [intOf];omega
             ·have acx:((C4 i:Int) != (C4 j:Int)) = true:=by simp;omega
              have acy:=hid (htie.out hij);have hcall:=hid (fun d=>Pe (wr.drewN d) (hO4.out.drewN d) i j li lj);clear hij htie Y6;generalize P a k = pak at *;generalize P b k = pbk at *;go_wp2;go_quiet ((first | (go_at_call_of 80 (ptr pak);exact Calls.quiet_of (hn1.out _)) | (go_at_call_of 80 (ptr pbk);exact Calls.quiet_of (hn2.out _))))
              go_wp2;go_quiet (fail)
              go_wp2_with (go_at_call 82;refine (hcall.out _).mono ?_;clear hcall;rintro e w5 ⟨⟨v5,rfl⟩,hK5,hO5⟩)
              go_roundw
              case rel=>exact ⟨true,k+1,_,rfl,by go_num,by omega,acy.out,Mt.Ca _ _ hC4.out,(fun h=>by cases h),(dA hK4.out _).trans (hK5.mono hK4.out.size),hO5⟩
              case measure=>simp [intOf];omega
            ·obtain rfl:k = Tm.room (S a):=by omega
             go_wp2;go_roundw
             case rel=>exact ⟨ag,b+1,C4,rfl,by go_num,by omega,U6,fun h=>Hsk.out (Wm.out h).2 (Wm.out h).1,hK4,hO4⟩
             case measure=>simp [intOf];omega
          ·have hsn:(S a != S b) = true:=by simpa using hs
           have hno:Hid (∀ θ,Wb.TermSb θ→¬ Mt.iY n Z C0 θ):=fun θ hθ R=>hs (hparts.out θ hθ R).1
           clear hC hla hlb hsk hs1 hs2 hs hparts;go_wp2;go_quiet (fail)
           go_wp2;go_quiet (fail)
           go_wp2;go_quiet (fail)
           go_wp2;go_ret;exact ⟨dA (dA (TT.out _) _) _,.inl ⟨rfl,hno.out⟩⟩
       ·have hneq:((C3 a:Int) != (C3 b:Int)) = true:=by simp;omega
        have hr:Hid (ag = false→∀ a' b',b' < a'→(a' < a∨(a' = a∧b' < b+1))→Mt.Shut S K C1 a' b'):=fun h=>hsk.out (fun e=>absurd (by rw [yC.out.same h];exact e) hC) h
        clear hC hla hlb hsk hsa hsb;go_wp2;go_quiet (fail)
        go_wp2;go_quiet (fail)
        go_wp2;go_roundw
        case rel=>exact ⟨ag,b+1,C3,rfl,by go_num,by omega,yC,hr,TT.out _,Wl.out _⟩
        case measure=>simp [intOf];omega
      ·obtain rfl:b = a:=by omega
       go_wp2;go_roundw
       case rel=>exact ⟨ag,b+1,C3,rfl,by go_num,by omega,yC,fun h a' b' h1 h2=>Y5.out h a' b' h2 (by omega),hK3,hO3⟩
       case measure=>simp [intOf];omega
    ·obtain rfl:a = n:=by omega
     go_wp2;go_roundw
     case rel=>exact ⟨ag,C2,rfl,hI2.out.begin,fun h a b h1 h2=>by rw [hI2.out.same h];exact acu.out h a b h1 h2,hK2,hO2⟩
     case measure =>
      rw [hleft.out];show Mt.left _ g (.bool ag) _ < _;unfold Mt.left;rw [hO2.out.cls];cases ag with
      | false=>have:=hI2.out.le;simp only;omega
      | true=>have:=hI2.out.less rfl;simp only;omega
end
end Go.Proofs.YtglohanbpjaieaaGreat
