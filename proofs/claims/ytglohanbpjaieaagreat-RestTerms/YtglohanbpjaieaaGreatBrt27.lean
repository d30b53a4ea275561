/-
  Parts of the proof: Met6, Met7.
-/
import Derived.Test.YtglohanbpjaieaaGreatBrt26
import Derived.Deep.AppendLies
namespace Go.Proofs.YtglohanbpjaieaaGreat
open Go.Proofs Go.RowKit Go.Shelf Go.Maps
namespace Mt
open Wb (App TermSb Same Sb)
structure CInv (n:Nat) (Z:Nat→List Int) (C0 C1:Nat→Nat) (ag:Bool) (C:Nat→Nat):Prop where
 lt:∀ k,k < n→C k < n
 coarse:∀ i j,i < n→j < n→C0 i = C0 j→C i = C j
 sound:∀ θ,TermSb θ→Resp n Z C0 θ→Resp n Z C θ
 same:ag = false→C = C1
 less:ag = true→cls n C < cls n C1
theorem CInv.le {n:Nat} {Z:Nat→List Int} {C0 C1:Nat→Nat} {ag:Bool} {C:Nat→Nat} (H:CInv n Z C0 C1 ag C):cls n C≤cls n C1:=by
 cases ag with
 | false=>rw [H.same rfl];exact Nat.le_refl _
 | true=>have:=H.less rfl;omega
theorem CInv.begin {n:Nat} {Z:Nat→List Int} {C0 C1:Nat→Nat} {ag:Bool} {C:Nat→Nat} (H:CInv n Z C0 C1 ag C):CInv n Z C0 C false C:=⟨H.lt,H.coarse,H.sound,fun _=>rfl,fun h=>by cases h⟩
theorem CInv.start {n:Nat} (Z:Nat→List Int) {C:Nat→Nat} (h:∀ k,k < n→C k < n):CInv n Z C C false C:=⟨h,fun _ _ _ _ e=>e,fun _ _ R=>R,fun _=>rfl,fun h=>by cases h⟩
theorem CInv.parts {n:Nat} {S:Nat→Int} {K:Nat→List Nat} {Z:Nat→List Int} (G:Gph n S K Z) {C0 C1:Nat→Nat} {ag:Bool} {C:Nat→Nat} (H:CInv n Z C0 C1 ag C) {a b:Nat} (ha:a < n) (hb:b < n) (sa:0≤S a) (sb:0≤S b) (e:C a = C b):∀ θ,TermSb θ→Resp n Z C0 θ→S a = S b∧∀ i,i < Tm.room (S a)→App θ (Z ((K a)[i]?.getD 0)) = App θ (Z ((K b)[i]?.getD 0)) :=
 fun θ hθ R=>G.eq hθ ha hb sa sb (H.sound θ hθ R a b ha hb e)
theorem CInv.tie {n:Nat} {S:Nat→Int} {K:Nat→List Nat} {Z:Nat→List Int} (G:Gph n S K Z) {C0 C1:Nat→Nat} {ag:Bool} {C:Nat→Nat} (H:CInv n Z C0 C1 ag C) {a b i:Nat} (ha:a < n) (hb:b < n) (sa:0≤S a) (sb:0≤S b) (e:C a = C b) (hi:i < Tm.room (S a)) (li:(K a)[i]?.getD 0 < n) (lj:(K b)[i]?.getD 0 < n) (hne:C ((K a)[i]?.getD 0)≠C ((K b)[i]?.getD 0)) :
 CInv n Z C0 C1 true (tied C ((K a)[i]?.getD 0) ((K b)[i]?.getD 0)):=by
 refine ⟨tied_lt H.lt lj,fun i j hi hj e=>tied_mono _ _ (H.coarse i j hi hj e),fun θ hθ R=>(H.sound θ hθ R).tie li lj ((H.parts G ha hb sa sb e θ hθ R).2 i hi),(fun h=>by cases h),fun _=>?_⟩
 have h1:=cls_tie H.lt li lj hne
 have h2:=H.le
 omega
theorem cls_congr {n:Nat} {C D:Nat→Nat} (h:∀ k,k < n→C k = D k):cls n C = cls n D:=by
 unfold cls
 congr 1
 refine List.filter_congr fun c _=>?_
 rw [Bool.eq_iff_iff,used_iff,used_iff]
 constructor
 ·rintro ⟨k,hk,e⟩;exact ⟨k,hk,by rw [← h k hk];exact e⟩
 ·rintro ⟨k,hk,e⟩;exact ⟨k,hk,by rw [h k hk];exact e⟩
def rdC (g:Nat) (W:World) (k:Nat):Nat:=match W.cell? ⟨g,k,none⟩ with
 | some (.int _ z)=>z.toNat
 | _=>0
def left (n g:Nat) (v:Value) (W:World):Nat:=2 * cls n (rdC g W)+(match v with | .bool true=>1 | _=>0)
end Mt
theorem TiesO.drewN {W:World} {x n:Nat} {aN:Option Addr} {cN g cC:Nat} {N:Nat→Nat} {C:Nat→Nat} {S:Nat→Int} {K:Nat→List Nat} {P:Nat→Nat→Nat} (h:TiesO W x n aN cN g cC N C S K P) (d:Nat):TiesO (W.drewN d) x n aN cN g cC N C S K P:=h.keep (keep_drewN (Keep.refl _ _ _) d) (h.2.2.drewN d)
theorem TiesO.cls {W:World} {x n:Nat} {aN:Option Addr} {cN g cC:Nat} {N:Nat→Nat} {C:Nat→Nat} {S:Nat→Int} {K:Nat→List Nat} {P:Nat→Nat→Nat} (h:TiesO W x n aN cN g cC N C S K P):Mt.cls n (Mt.rdC g W) = Mt.cls n C:=by
 refine Mt.cls_congr fun k hk=>?_
 obtain ⟨_,_,e,hc⟩:=h.ties.cl k hk
 cases e
 rw [Nat.zero_add] at hc
 unfold Mt.rdC
 rw [hc]
 exact Int.toNat_natCast _
def CloseAns (w w':World) (e:Ending) (x n:Nat) (aN:Option Addr) (cN g cC:Nat) (N:Nat→Nat) (C0:Nat→Nat) (S:Nat→Int) (K:Nat→List Nat) (P:Nat→Nat→Nat) (Z:Nat→List Int):Prop :=
 Keep w.heap.size g w w'∧((e = .returned (.bool false)∧∀ θ,Wb.TermSb θ→¬ Mt.Resp n Z C0 θ) ∨
  (e = .returned (.bool true)∧∃ C,TiesO w' x n aN cN g cC N C S K P∧(∀ k,k < n→C k < n)∧(∀ i j,i < n→j < n→C0 i = C0 j→C i = C j)∧(∀ θ,Wb.TermSb θ→Mt.Resp n Z C0 θ→Mt.Resp n Z C θ)∧∀ a b,a < n→b < n→Mt.Shut S K C a b))
theorem Mt.Shut.symm {S:Nat→Int} {K:Nat→List Nat} {C:Nat→Nat} {a b:Nat} (h:Mt.Shut S K C a b):Mt.Shut S K C b a:=fun e h1 h2=>by
 obtain ⟨e1,e2⟩:=h e.symm h2 h1
 exact ⟨e1.symm,fun i hi=>(e2 i (by rw [e1];exact hi)).symm⟩
theorem Mt.Shut.all {n:Nat} {S:Nat→Int} {K:Nat→List Nat} {C:Nat→Nat} (h:∀ a b,a < n→b < a→Mt.Shut S K C a b):∀ a b,a < n→b < n→Mt.Shut S K C a b:=fun a b ha hb=>by
 rcases Nat.lt_trichotomy b a with h1 | rfl | h1
 ·exact h a b ha h1
 ·exact fun _ _ _=>⟨rfl,fun _ _=>rfl⟩
 ·exact (h b a hb h1).symm
set_option maxRecDepth 100000 in
set_option maxHeartbeats 2000000 in
theorem tclose_any {x n:Nat} {aN:Option Addr} {cN g cC:Nat} {N:Nat→Nat} {C0:Nat→Nat} {S:Nat→Int} {K:Nat→List Nat} {P:Nat→Nat→Nat} {Z:Nat→List Int} (G:Mt.Gph n S K Z) (w:World) (H:TiesO w x n aN cN g cC N C0 S K P) (hlt0:∀ k,k < n→C0 k < n) (hn0:0 < n) :
 Calls Tryz.prog 83 #[ptr x] w fun e w'=>CloseAns w w' e x n aN cN g cC N C0 S K P Z:=by
 have hn:=H.ties.le
 have hn':(n:Int)≤5000:=by omega
 obtain ⟨bN,oN,rfl,_⟩:=H.ties.nd 0 hn0
 have HG:=hid G
 have hI0:=hid (Mt.CInv.start Z hlt0)
 have HO:=hid H
 clear H hlt0 G
 go_enter Tryz.func83,Tryz.ntmps83
 go_wp2
 go_loopw [3] (fun v wr=>∃ (ag:Bool) (C:Nat→Nat),v = .bool ag∧Hid (Mt.CInv n Z C0 C false C)∧Hid (ag = false→∀ a b,a < n→b < a→Mt.Shut S K C a b)∧Hid (Keep w.heap.size g w wr)∧Hid (TiesO wr x n (some ⟨bN,oN,none⟩) cN g cC N C S K P)) (fun v wr=>Mt.left n g v wr)
 case atStart=>exact ⟨true,C0,rfl,hI0,(fun h=>by cases h),Keep.refl _ _ _,HO⟩
 case round =>
  obtain ⟨ag,C1,rfl,hI1,hSh1,hK1,hO1⟩:=hrel
  have hleft:Hid (Mt.left n g (.bool ag) wr = 2 * Mt.cls n C1+(match Value.bool ag with | .bool true=>1 | _=>0)):=by show Mt.left n g (.bool ag) wr = _;unfold Mt.left;rw [hO1.out.cls]
  cases ag with
  | false =>
   go_wp2
   go_ret
   exact ⟨hK1.out,.inr ⟨rfl,C1,hO1.out,hI1.out.lt,hI1.out.coarse,hI1.out.sound,Mt.Shut.all (hSh1.out (by first | rfl | trivial))⟩⟩
  | true =>
   clear hSh1
   go_wp2
   go_loopw [3,4] (fun v i wr=>∃ (ag:Bool) (a:Nat) (C:Nat→Nat),v = .bool ag∧i = .int .i64 (a:Int)∧a≤n∧Hid (Mt.CInv n Z C0 C1 ag C)∧Hid (ag = false→∀ a' b',a' < a→b' < a'→Mt.Shut S K C1 a' b')∧Hid (Keep w.heap.size g w wr)∧Hid (TiesO wr x n (some ⟨bN,oN,none⟩) cN g cC N C S K P)) (fun _ i _=>n - (intOf i).toNat)
   case atStart=>exact ⟨false,0,C1,rfl,rfl,Nat.zero_le _,hI1,fun _ a' b' h=>by omega,hK1,hO1⟩
   case round =>
    obtain ⟨ag,a,C2,rfl,rfl,ha,hI2,hSh2,hK2,hO2⟩:=hrel
    have h0r:=hO2.out.ties.c0
    by_cases han:a < n
    ·have han':(a:Int) < (n:Int):=by omega
     have hkn:=(HG.out.known a han)
     go_wp2
     go_loopw [3,5] (fun v i wr=>∃ (ag:Bool) (b:Nat) (C:Nat→Nat),v = .bool ag∧i = .int .i64 (b:Int)∧b≤a∧Hid (Mt.CInv n Z C0 C1 ag C)∧Hid (ag = false→∀ a' b',b' < a'→(a' < a∨(a' = a∧b' < b))→Mt.Shut S K C1 a' b')∧Hid (Keep w.heap.size g w wr)∧Hid (TiesO wr x n (some ⟨bN,oN,none⟩) cN g cC N C S K P)) (fun _ i _=>a - (intOf i).toNat)
     case atStart=>exact ⟨ag,0,C2,rfl,rfl,Nat.zero_le _,hI2,fun h a' b' h1 h2=>hSh2.out h a' b' (by omega) h1,hK2,hO2⟩
     case round =>
      obtain ⟨ag,b,C3,rfl,rfl,hb,hI3,hSh3,hK3,hO3⟩:=hrel
      have hT:=hO3.out.ties
      have h0r:=hT.c0
      have h1r:=hT.c1
      by_cases hba:b < a
      ·have hba':(b:Int) < (a:Int):=by omega
       have hbn:b < n:=by omega
       have hbn':(b:Int) < (n:Int):=by omega
       obtain ⟨_,_,e,hna⟩:=hT.nd a han
       cases e
       obtain ⟨_,_,e,hnb⟩:=hT.nd b hbn
       cases e
       obtain ⟨_,_,e,hca⟩:=hT.cl a han
       cases e
       obtain ⟨_,_,e,hcb⟩:=hT.cl b hbn
       cases e
       rw [Nat.zero_add] at hca hcb
       obtain ⟨pa,qa,hNa,hpa⟩:=hT.tr a han
       obtain ⟨pb,qb,hNb,hpb⟩:=hT.tr b hbn
       have hsa:=hNa.cell0
       have hsb:=hNb.cell0
       have hla:=hid hNa.cell1
       have hlb:=hid hNb.cell1
       have Hpa:=hid hpa
       have Hpb:=hid hpb
       have HT:=hid hT
       have hO3':=hid (fun d=>hO3.out.drewN d)
       have hK3':=hid (fun d=>keep_drewN hK3.out d)
       clear hNa hNb hpa hpb hT
       have hsk:Hid (Mt.Shut S K C1 a b→ag = false→∀ a' b',b' < a'→(a' < a∨(a' = a∧b' < b+1))→Mt.Shut S K C1 a' b'):=fun hs h a' b' h1 h2=>by
        by_cases e:a' = a∧b' = b
        ·obtain ⟨rfl,rfl⟩:=e;exact hs
        ·exact hSh3.out h a' b' h1 (by omega)
       by_cases hC:C3 a = C3 b
       ·have hneq:((C3 a:Int) != (C3 b:Int)) = false:=by rw [hC];simp
        by_cases hs1:S a < 0
        ·have hr:Hid (ag = false→∀ a' b',b' < a'→(a' < a∨(a' = a∧b' < b+1))→Mt.Shut S K C1 a' b'):=hsk.out fun _ h _=>by omega
         clear hC hla hlb hsk
         go_wp2
         go_quiet (fail)
         go_wp2
         go_quiet (fail)
         go_wp2
         go_roundw
         case rel=>exact ⟨ag,b+1,C3,rfl,by go_num,by omega,hI3,hr,hK3'.out _,hO3'.out _⟩
         case measure=>simp [intOf];omega
        ·have hs1':decide (S a < 0) = false:=by simpa using hs1
         by_cases hs2:S b < 0
         ·have hr:Hid (ag = false→∀ a' b',b' < a'→(a' < a∨(a' = a∧b' < b+1))→Mt.Shut S K C1 a' b'):=hsk.out fun _ _ h=>by omega
          clear hC hla hlb hsk hs1
          go_wp2
          go_quiet (fail)
          go_wp2
          go_quiet (fail)
          go_wp2
          go_roundw
          case rel=>exact ⟨ag,b+1,C3,rfl,by go_num,by omega,hI3,hr,hK3'.out _,hO3'.out _⟩
          case measure=>simp [intOf];omega
         ·have hs2':decide (S b < 0) = false:=by simpa using hs2
          have hs1n:0≤S a:=by omega
          have hs2n:0≤S b:=by omega
          have hparts:=hid (hI3.out.parts HG.out han hbn hs1n hs2n hC)
          by_cases hs:S a = S b
          ·have hsn:(S a != S b) = false:=by simpa using hs
           have hroom:Tm.room (S b) = Tm.room (S a):=by rw [hs]
           have Hroom:=hid hroom
           have HSab:=hid hs
           have Hsk:Hid ((∀ i,i < Tm.room (S a)→C1 ((K a)[i]?.getD 0) = C1 ((K b)[i]?.getD 0))→(∀ a' b',b' < a'→(a' < a∨(a' = a∧b' < b))→Mt.Shut S K C1 a' b')→∀ a' b',b' < a'→(a' < a∨(a' = a∧b' < b+1))→Mt.Shut S K C1 a' b'):=fun h h0 a' b' h1 h2=>by
            by_cases e:a' = a∧b' = b
            ·obtain ⟨rfl,rfl⟩:=e;exact fun _ _ _=>⟨HSab.out,h⟩
            ·exact h0 a' b' h1 (by omega)
           have hC3:=hid hC
           have hr2:=Tm.room_le (S a)
           clear hC hla hlb hsk hs1 hs2 hs hparts hroom
           go_wp2
           go_quiet (fail)
           go_wp2
           go_quiet (fail)
           go_wp2
           go_quiet (fail)
           go_wp2
           go_loopw [3,8] (fun v i wr=>∃ (ag:Bool) (k:Nat) (C:Nat→Nat),v = .bool ag∧i = .int .i64 (k:Int)∧k≤Tm.room (S a)∧Hid (Mt.CInv n Z C0 C1 ag C)∧Hid (C a = C b)∧Hid (ag = false→(∀ a' b',b' < a'→(a' < a∨(a' = a∧b' < b))→Mt.Shut S K C1 a' b')∧∀ i,i < k→C1 ((K a)[i]?.getD 0) = C1 ((K b)[i]?.getD 0))∧Hid (Keep w.heap.size g w wr)∧Hid (TiesO wr x n (some ⟨bN,oN,none⟩) cN g cC N C S K P)) (fun _ i _=>Tm.room (S a) - (intOf i).toNat)
           case atStart=>exact ⟨ag,0,C3,rfl,rfl,Nat.zero_le _,hI3,hC3,fun h=>⟨hSh3.out h,fun i hi=>by omega⟩,keep_drewN (keep_drewN (hK3'.out _) _) _,((hO3'.out _).drewN _).drewN _⟩
           case round =>
            clear h0r h1r hna hnb hca hcb hsa hsb
            obtain ⟨ag,k,C4,rfl,rfl,hk,hI4,hC4,hSh4,hK4,hO4⟩:=hrel
            have hT:=hO4.out.ties
            have h0r:=hT.c0
            have h1r:=hT.c1
            obtain ⟨pa,qa,hNa,hpa⟩:=hT.tr a han
            obtain ⟨pb,qb,hNb,hpb⟩:=hT.tr b hbn
            have hla:=hNa.cell1
            have hlb:=hNb.cell1
            rw [Hroom.out] at hlb hpb
            have Hpa:=hid hpa
            have Hpb:=hid hpb
            have HT:=hid hT
            clear hNa hNb hpa hpb hT
            by_cases hlt:k < Tm.room (S a)
            ·have hkr:(k:Int) < (Tm.room (S a):Int):=by omega
             obtain ⟨b1,o1,rfl,hc1⟩:=Hpa.out k hlt
             obtain ⟨b2,o2,rfl,hc2⟩:=Hpb.out k hlt
             have hk2:k < Tm.room (S b):=by rw [Hroom.out];exact hlt
             have hn1:=hid (fun m=>(HT.out.drewN m).node (k:=a) (i:=k) han hlt)
             have hn2:=hid (fun m=>(HT.out.drewN m).node (k:=b) (i:=k) hbn hk2)
             obtain ⟨li,_⟩:=HT.out.fd a k han hlt
             obtain ⟨lj,_⟩:=HT.out.fd b k hbn hk2
             obtain ⟨_,_,e,hci⟩:=HT.out.cl _ li
             cases e
             obtain ⟨_,_,e,hcj⟩:=HT.out.cl _ lj
             cases e
             rw [Nat.zero_add] at hci hcj
             have htie:=hid (hI4.out.tie HG.out (i:=k) han hbn hs1n hs2n hC4.out hlt li lj)
             have hshr:Hid (C4 ((K a)[k]?.getD 0) = C4 ((K b)[k]?.getD 0)→ag = false→(∀ a' b',b' < a'→(a' < a∨(a' = a∧b' < b))→Mt.Shut S K C1 a' b')∧∀ i,i < k+1→C1 ((K a)[i]?.getD 0) = C1 ((K b)[i]?.getD 0)):=fun e h=>by
              refine ⟨(hSh4.out h).1,fun i hi=>?_⟩
              by_cases e2:i = k
              ·subst e2
               rw [hI4.out.same h] at e
               exact e
              ·exact (hSh4.out h).2 i (by omega)
             have li':(((K a)[k]?.getD 0:Nat):Int) < (n:Int):=by omega
             have lj':(((K b)[k]?.getD 0:Nat):Int) < (n:Int):=by omega
             generalize (K a)[k]?.getD 0 = i at *
             generalize (K b)[k]?.getD 0 = j at *
             by_cases hij:C4 i = C4 j
             ·have hneq2:((C4 i:Int) != (C4 j:Int)) = false:=by rw [hij];simp
              have hr:=hid (hshr.out hij)
              clear hij htie hshr
              generalize P a k = pak at *
              generalize P b k = pbk at *
              go_wp2
              go_quiet ((first | (go_at_call_of 80 (ptr pak);exact Calls.quiet_of (hn1.out _)) | (go_at_call_of 80 (ptr pbk);exact Calls.quiet_of (hn2.out _))))
              go_wp2
              go_quiet (fail)
              go_wp2
              go_roundw
              case rel=>exact ⟨ag,k+1,C4,rfl,by go_num,by omega,hI4,hC4,hr,keep_drewN hK4.out _,hO4.out.drewN _⟩
              case measure=>simp [intOf];omega
             ·have hneq2:((C4 i:Int) != (C4 j:Int)) = true:=by simp;omega
              have htie':=hid (htie.out hij)
              have hcall:=hid (fun d=>tie_any (wr.drewN d) (hO4.out.drewN d) i j li lj)
              clear hij htie hshr
              generalize P a k = pak at *
              generalize P b k = pbk at *
              go_wp2
              go_quiet ((first | (go_at_call_of 80 (ptr pak);exact Calls.quiet_of (hn1.out _)) | (go_at_call_of 80 (ptr pbk);exact Calls.quiet_of (hn2.out _))))
              go_wp2
              go_quiet (fail)
              go_wp2_with (go_at_call 82;refine (hcall.out _).mono ?_;clear hcall;rintro e w5 ⟨⟨v5,rfl⟩,hK5,hO5⟩)
              go_roundw
              case rel=>exact ⟨true,k+1,_,rfl,by go_num,by omega,htie'.out,Mt.tied_mono _ _ hC4.out,(fun h=>by cases h),(keep_drewN hK4.out _).trans (hK5.mono hK4.out.size),hO5⟩
              case measure=>simp [intOf];omega
            ·obtain rfl:k = Tm.room (S a):=by omega
             go_wp2
             go_roundw
             case rel=>exact ⟨ag,b+1,C4,rfl,by go_num,by omega,hI4,fun h=>Hsk.out (hSh4.out h).2 (hSh4.out h).1,hK4,hO4⟩
             case measure=>simp [intOf];omega
          ·have hsn:(S a != S b) = true:=by simpa using hs
           have hno:Hid (∀ θ,Wb.TermSb θ→¬ Mt.Resp n Z C0 θ):=fun θ hθ R=>hs (hparts.out θ hθ R).1
           clear hC hla hlb hsk hs1 hs2 hs hparts
           go_wp2
           go_quiet (fail)
           go_wp2
           go_quiet (fail)
           go_wp2
           go_quiet (fail)
           go_wp2
           go_ret
           exact ⟨keep_drewN (keep_drewN (hK3'.out _) _) _,.inl ⟨rfl,hno.out⟩⟩
       ·have hneq:((C3 a:Int) != (C3 b:Int)) = true:=by simp;omega
        have hr:Hid (ag = false→∀ a' b',b' < a'→(a' < a∨(a' = a∧b' < b+1))→Mt.Shut S K C1 a' b'):=fun h=>hsk.out (fun e=>absurd (by rw [hI3.out.same h];exact e) hC) h
        clear hC hla hlb hsk hsa hsb
        go_wp2
        go_quiet (fail)
        go_wp2
        go_quiet (fail)
        go_wp2
        go_roundw
        case rel=>exact ⟨ag,b+1,C3,rfl,by go_num,by omega,hI3,hr,hK3'.out _,hO3'.out _⟩
        case measure=>simp [intOf];omega
      ·obtain rfl:b = a:=by omega
       go_wp2
       go_roundw
       case rel=>exact ⟨ag,b+1,C3,rfl,by go_num,by omega,hI3,fun h a' b' h1 h2=>hSh3.out h a' b' h2 (by omega),hK3,hO3⟩
       case measure=>simp [intOf];omega
    ·obtain rfl:a = n:=by omega
     go_wp2
     go_roundw
     case rel=>exact ⟨ag,C2,rfl,hI2.out.begin,fun h a b h1 h2=>by rw [hI2.out.same h];exact hSh2.out h a b h1 h2,hK2,hO2⟩
     case measure =>
      rw [hleft.out]
      show Mt.left _ g (.bool ag) _ < _
      unfold Mt.left
      rw [hO2.out.cls]
      cases ag with
      | false=>have:=hI2.out.le;simp only;omega
      | true=>have:=hI2.out.less rfl;simp only;omega
end Go.Proofs.YtglohanbpjaieaaGreat
namespace Go.Proofs.YtglohanbpjaieaaGreat
open Go.Proofs Go.RowKit Go.Shelf Go.Maps
structure Nd where
 X:Nat
 s:Int
 Xs:List Nat
 zss:List (List Int)
def Nd.z (d:Nd):List Int:=d.s :: d.zss.flatten
def nd0:Nd:=⟨0,0,[],[]⟩
abbrev ndAt (L:List Nd) (k:Nat):Nd:=L[k]?.getD nd0
def hd0 (z:List Int):Int:=z[0]?.getD 0
theorem Nd.hd (d:Nd):hd0 d.z = d.s:=rfl
def FndL (L:List Nd) (p:Nat) (z:List Int) (i:Nat):Prop:=i < L.length∧(ndAt L i).z = z∧(hd0 z < 0→∀ k,k < i→(ndAt L k).s≠hd0 z)∧(0≤hd0 z→(ndAt L i).X = p∧∀ k,k < i→(ndAt L k).X≠p)
def FullL (L:List Nd) (d:Nd):Prop:=∀ j,j < d.Xs.length→∃ i,FndL L (d.Xs[j]?.getD 0) (d.zss[j]?.getD []) i
def OneL (L:List Nd):Prop:=∀ i j,i < L.length→j < L.length→(ndAt L i).s < 0→(ndAt L i).s = (ndAt L j).s→i = j
theorem ndAt_app {L:List Nd} (M:List Nd) {k:Nat} (h:k < L.length):ndAt (L++M) k = ndAt L k:=by unfold ndAt;rw [List.getElem?_append_left h]
theorem ndAt_last (L:List Nd) (d:Nd):ndAt (L++[d]) L.length = d:=by unfold ndAt;simp
theorem ndAt_mem {L:List Nd} {k:Nat} (h:k < L.length):ndAt L k∈L:=by unfold ndAt;rw [List.getElem?_eq_getElem h];exact List.getElem_mem h
theorem FndL.app {L:List Nd} {p:Nat} {z:List Int} {i:Nat} (h:FndL L p z i) (M:List Nd):FndL (L++M) p z i:=by
 obtain ⟨h1,h2,h3,h4⟩:=h
 refine ⟨by rw [List.length_append];omega,by rw [ndAt_app M h1];exact h2,fun hs k hk=>by rw [ndAt_app M (by omega)];exact h3 hs k hk,fun hs=>?_⟩
 obtain ⟨h5,h6⟩:=h4 hs
 exact ⟨by rw [ndAt_app M h1];exact h5,fun k hk=>by rw [ndAt_app M (by omega)];exact h6 k hk⟩
theorem FullL.app {L:List Nd} {d:Nd} (h:FullL L d) (M:List Nd):FullL (L++M) d:=fun j hj=>by
 obtain ⟨i,hi⟩:=h j hj
 exact ⟨i,hi.app M⟩
theorem OneL.snoc {L:List Nd} (h:OneL L) {d:Nd} (hd:d.s < 0→∀ k,k < L.length→(ndAt L k).s≠d.s):OneL (L++[d]):=fun i j hi hj hs e=>by
 rw [List.length_append,List.length_singleton] at hi hj
 by_cases h1:i < L.length
 ·rw [ndAt_app _ h1] at hs e
  by_cases h2:j < L.length
  ·rw [ndAt_app _ h2] at e
   exact h i j h1 h2 hs e
  ·obtain rfl:j = L.length:=by omega
   rw [ndAt_last] at e
   exact absurd e (hd (by omega) i h1)
 ·obtain rfl:i = L.length:=by omega
  rw [ndAt_last] at hs e
  by_cases h2:j < L.length
  ·rw [ndAt_app _ h2] at e
   exact absurd e.symm (hd hs j h2)
  ·omega
def Far (vN vC:Value) (lo hi:Nat):Prop:=∀ q,(vN.ownBlock = some q∨vC.ownBlock = some q)→q < lo∨hi≤q
def NdAt (W:World) (x:Nat) (vN vC:Value) (d:Nd):Prop:=∃ lo hi v,x < lo∧hi≤W.heap.size∧Far vN vC lo hi∧lo≤d.X∧d.X < hi∧Node W d.X d.s v∧PartsAt lo hi W v d.Xs∧d.Xs.length = Tm.room d.s∧d.zss.length = d.Xs.length∧(∀ s∈d.z,-8≤s∧s < 6)∧∀ j,j < d.Xs.length→TreeIn lo hi W (d.Xs[j]?.getD 0) (d.zss[j]?.getD [])
structure WK (W W':World) (x:Nat) (vN vC vN' vC':Value):Prop where
 os:W'.os = W.os
 tape:W'.tape = W.tape
 output:W'.output = W.output
 size:W.heap.size≤W'.heap.size
 block:∀ k,k < W.heap.size→k≠x→some k≠vN.ownBlock→some k≠vC.ownBlock→W'.heap[k]? = W.heap[k]?
 ownN:∀ k,vN'.ownBlock = some k→vN.ownBlock = some k∨W.heap.size≤k
 ownC:∀ k,vC'.ownBlock = some k→vC.ownBlock = some k∨W.heap.size≤k
theorem WK.refl (W:World) (x:Nat) (vN vC:Value):WK W W x vN vC vN vC:=⟨rfl,rfl,rfl,Nat.le_refl _,fun _ _ _ _ _=>rfl,fun _ h=>.inl h,fun _ h=>.inl h⟩
theorem WK.drewN {W W':World} {x:Nat} {vN vC vN' vC':Value} (h:WK W W' x vN vC vN' vC') (d:Nat):WK W (W'.drewN d) x vN vC vN' vC':=⟨h.os,h.tape,h.output,h.size,h.block,h.ownN,h.ownC⟩
theorem WK.trans {W1 W2 W3:World} {x:Nat} {vN1 vC1 vN2 vC2 vN3 vC3:Value} (h:WK W1 W2 x vN1 vC1 vN2 vC2) (k:WK W2 W3 x vN2 vC2 vN3 vC3):WK W1 W3 x vN1 vC1 vN3 vC3:=by
 refine ⟨k.os.trans h.os,k.tape.trans h.tape,k.output.trans h.output,Nat.le_trans h.size k.size,fun q hq h1 h2 h3=>?_,fun q hq=>?_,fun q hq=>?_⟩
 ·have e1:=h.block q hq h1 h2 h3
  refine (k.block q (by have:=h.size;omega) h1 (fun e=>?_) (fun e=>?_)).trans e1
  ·rcases h.ownN q e.symm with e2 | e2
   ·exact h2 e2.symm
   ·omega
  ·rcases h.ownC q e.symm with e2 | e2
   ·exact h3 e2.symm
   ·omega
 ·rcases k.ownN q hq with e | e
  ·exact h.ownN q e
  ·have:=h.size;exact .inr (by omega)
 ·rcases k.ownC q hq with e | e
  ·exact h.ownC q e
  ·have:=h.size;exact .inr (by omega)
theorem WK.far {W W':World} {x:Nat} {vN vC vN' vC':Value} (h:WK W W' x vN vC vN' vC') {lo hi:Nat} (hF:Far vN vC lo hi) (hh:hi≤W.heap.size):Far vN' vC' lo hi:=fun q hq=>by
 rcases hq with e | e
 ·rcases h.ownN q e with e | e
  ·exact hF q (.inl e)
  ·exact .inr (by omega)
 ·rcases h.ownC q e with e | e
  ·exact hF q (.inr e)
  ·exact .inr (by omega)
theorem WK.keeps {W W':World} {x:Nat} {vN vC vN' vC':Value} (h:WK W W' x vN vC vN' vC') {lo hi:Nat} (hF:Far vN vC lo hi) (hx:x < lo) (hh:hi≤W.heap.size):∀ k,lo≤k→k < hi→W'.heap[k]? = W.heap[k]?:=fun k h1 h2 =>
 h.block k (by omega) (by omega) (fun e=>by have:=hF k (.inl e.symm);omega) (fun e=>by have:=hF k (.inr e.symm);omega)
theorem NdAt.keep {W W':World} {x:Nat} {vN vC vN' vC':Value} {d:Nd} (H:NdAt W x vN vC d) (h:WK W W' x vN vC vN' vC'):NdAt W' x vN' vC' d:=by
 obtain ⟨lo,hi,v,h1,h2,h3,h4,h5,h6,h7,h8,h9,h10,h11⟩:=H
 have hk:=h.keeps h3 h1 h2
 exact ⟨lo,hi,v,h1,by have:=h.size;omega,h.far h3 h2,h4,h5,(hk _ h4 h5).trans h6,h7.keep (Nat.le_refl _) (Nat.le_refl _) hk,h8,h9,h10,fun j hj=>(h11 j hj).keep (Nat.le_refl _) (Nat.le_refl _) hk⟩
theorem parts_one {lo hi lo' hi':Nat} {W:World} {v:Value} {Xs Ys:List Nat} (h:PartsAt lo hi W v Xs) (k:PartsAt lo' hi' W v Ys):Xs = Ys:=by
 obtain ⟨a,c,rfl,h1⟩:=h
 obtain ⟨a',c',e,h2⟩:=k
 simp only [Value.slice.injEq] at e
 obtain ⟨rfl,hl,rfl⟩:=e
 refine List.ext_getElem hl fun j j1 j2=>?_
 obtain ⟨b,off,e1,_,_,c1⟩:=h1 j j1
 obtain ⟨b',off',e2,_,_,c2⟩:=h2 j j2
 rw [e1] at e2
 simp only [Option.some.injEq,Addr.mk.injEq] at e2
 obtain ⟨rfl,rfl,_⟩:=e2
 rw [c1] at c2
 simp only [Option.some.injEq,Value.pointer.injEq,Addr.mk.injEq] at c2
 have:=c2.1
 rw [List.getElem?_eq_getElem j1,List.getElem?_eq_getElem j2] at this
 exact this
theorem TreeIn.one {lo hi:Nat} {W:World} {X:Nat} {zs:List Int} (h:TreeIn lo hi W X zs):∀ {lo' hi':Nat} {zs':List Int},TreeIn lo' hi' W X zs'→zs = zs':=by
 induction h with
 | mk X s v Xs zss hX1 hX2 hN hP hr hl _ ih =>
  intro lo' hi' zs' h'
  cases h' with
  | mk _ s' v' Xs' zss' _ _ hN' hP' hr' hl' hT' =>
   have e:some (Obj.cells #[Value.int .i64 s,v] 121 (0,0)) = some (Obj.cells #[Value.int .i64 s',v'] 121 (0,0)):=(show W.heap[X]? = _ from hN).symm.trans (show W.heap[X]? = _ from hN')
   simp only [Option.some.injEq,Obj.cells.injEq,and_true] at e
   have e2:=congrArg Array.toList e
   simp only [List.cons.injEq,and_true,Value.int.injEq,true_and] at e2
   obtain ⟨rfl,rfl⟩:=e2
   obtain rfl:=parts_one hP hP'
   congr 2
   refine List.ext_getElem (by omega) fun j j1 j2=>?_
   have:=ih j (by omega) (hT' j (by omega))
   rw [List.getElem?_eq_getElem j1,List.getElem?_eq_getElem j2] at this
   exact this
theorem NdAt.tree {W:World} {x:Nat} {vN vC:Value} {d:Nd} (H:NdAt W x vN vC d):∃ lo hi,TreeIn lo hi W d.X d.z:=by
 obtain ⟨lo,hi,v,h1,h2,h3,h4,h5,h6,h7,h8,h9,h10,h11⟩:=H
 exact ⟨lo,hi,TreeIn.mk d.X d.s v d.Xs d.zss h4 h5 h6 h7 h8 h9 h11⟩
theorem NdAt.node {W:World} {x:Nat} {vN vC:Value} {d:Nd} (H:NdAt W x vN vC d):∃ v,Node W d.X d.s v:=by
 obtain ⟨lo,hi,v,h1,h2,h3,h4,h5,h6,_⟩:=H
 exact ⟨v,h6⟩
theorem node_one {W:World} {X:Nat} {s s':Int} {v v':Value} (h:Node W X s v) (k:Node W X s' v'):s = s'∧v = v':=by
 have e:some (Obj.cells #[Value.int .i64 s,v] 121 (0,0)) = some (Obj.cells #[Value.int .i64 s',v'] 121 (0,0)):=(show W.heap[X]? = _ from h).symm.trans (show W.heap[X]? = _ from k)
 simp only [Option.some.injEq,Obj.cells.injEq,and_true] at e
 have e2:=congrArg Array.toList e
 simp only [List.cons.injEq,and_true,Value.int.injEq,true_and] at e2
 exact e2
structure TB (W:World) (x:Nat) (vN vC:Value) (L:List Nd) (m:Nat) (C:Nat→Nat):Prop where
 cell:W.heap[x]? = some (.cells #[vN,vC] 115 (0,0))
 rowN:W.ownsRow (x+1) 117 1 vN L.length (L.map fun d=>ptr d.X)
 rowC:New (x+1) W vC (Mt.clL m C)
 nds:∀ d∈L,NdAt W x vN vC d
 one:OneL L
theorem TB.lt {W:World} {x:Nat} {vN vC:Value} {L:List Nd} {m:Nat} {C:Nat→Nat} (h:TB W x vN vC L m C):x < W.heap.size:=(Array.getElem?_eq_some_iff.1 h.cell).1
theorem TB.drewN {W:World} {x:Nat} {vN vC:Value} {L:List Nd} {m:Nat} {C:Nat→Nat} (h:TB W x vN vC L m C) (d:Nat):TB (W.drewN d) x vN vC L m C:=⟨h.cell,h.rowN,h.rowC,fun q hq=>(h.nds q hq).keep ((WK.refl W x vN vC).drewN d),h.one⟩
theorem TB.form {W:World} {x:Nat} {vN vC:Value} {L:List Nd} {m:Nat} {C:Nat→Nat} (h:TB W x vN vC L m C):∃ aN cN,vN = .slice aN L.length cN∧∀ k,k < L.length→∃ b off,aN = some ⟨b,off,none⟩∧W.cell? ⟨b,off+k,none⟩ = some (ptr (ndAt L k).X):=by
 rcases h.rowN.2 with ⟨e,hn⟩ | ⟨g,cap,cur,e,_⟩
 ·exact ⟨none,0,by rw [e,hn],fun k hk=>by omega⟩
 ·refine ⟨_,cap,e,fun k hk=>⟨g,0,rfl,?_⟩⟩
  have hr:=h.rowN
  rw [e] at hr
  have:=World.ownsRow.cellAt hr k (by omega)
  rw [Nat.zero_add,this]
  simp [ndAt,hk]
def extC (n:Nat) (C:Nat→Nat):Nat→Nat:=fun k=>if k < n then C k else k
theorem extC_lt {n:Nat} {C:Nat→Nat} {k:Nat} (h:k < n):extC n C k = C k:=by unfold extC;rw [if_pos h]
theorem ownsRow_keep {W W':World} {base:Nat} {e:TypeId} {size:Nat} {v:Value} {n:Nat} {xs:List Value} (h:W.ownsRow base e size v n xs) (hk:∀ q,v.ownBlock = some q→W'.heap[q]? = W.heap[q]?):W'.ownsRow base e size v n xs:=by
 refine ⟨h.1,?_⟩
 rcases h.2 with h1 | ⟨g,cap,cur,rfl,h2,h3,h4⟩
 ·exact .inl h1
 ·exact .inr ⟨g,cap,cur,rfl,h2,(hk g rfl).trans h3,h4⟩
theorem row_type {W:World} {base:Nat} {e:TypeId} {size:Nat} {v:Value} {n:Nat} {xs:List Value} (h:W.ownsRow base e size v n xs) {q:Nat} (hq:v.ownBlock = some q):∃ cur,W.heap[q]? = some (.cells cur e (0,0)):=by
 rcases h.2 with ⟨rfl,_⟩ | ⟨g,cap,cur,rfl,h2,h3,h4⟩
 ·cases hq
 ·cases hq;exact ⟨cur,h3⟩
theorem TB.apart {W:World} {x:Nat} {vN vC:Value} {L:List Nd} {m:Nat} {C:Nat→Nat} (h:TB W x vN vC L m C) {q:Nat} (h1:vN.ownBlock = some q) (h2:vC.ownBlock = some q):False:=by
 obtain ⟨c1,e1⟩:=row_type h.rowN h1
 obtain ⟨c2,e2⟩:=row_type h.rowC h2
 rw [e1] at e2
 simp only [Option.some.injEq,Obj.cells.injEq] at e2
 exact absurd e2.2.1 (by decide)
theorem set_two {W:World} {x:Nat} {v0 v1:Value} {T:TypeId} (h:W.heap[x]? = some (.cells #[v0,v1] T (0,0))) (u:Value):(W.setCell ⟨x,0,none⟩ u).heap[x]? = some (.cells #[u,v1] T (0,0))∧(W.setCell ⟨x,1,none⟩ u).heap[x]? = some (.cells #[v0,u] T (0,0)):=by
 obtain ⟨hlt,hk⟩:=Array.getElem?_eq_some_iff.1 h
 constructor
 ·show (W.heap.modify x _)[x]? = _
  rw [Array.getElem?_eq_getElem (by rw [Array.size_modify];exact hlt),Array.getElem_modify_self,hk]
  rfl
 ·show (W.heap.modify x _)[x]? = _
  rw [Array.getElem?_eq_getElem (by rw [Array.size_modify];exact hlt),Array.getElem_modify_self,hk]
  rfl
theorem grown_pre {W V w2:World} {tmp:Obj} {r:Option Nat} (e:V.heap = W.heap) (h1:V.os = W.os) (h2:V.tape = W.tape) (h3:V.output = W.output) (hg:(V.alloc tmp).grownBy w2 r):W.grownBy w2 r:=by
 have hs:(V.alloc tmp).heap.size = W.heap.size+1:=by simp [e]
 refine ⟨hg.os.trans h1,hg.tape.trans h2,hg.output.trans h3,by have:=hg.size;omega,fun k hk hne=>?_⟩
 rw [hg.block k (by omega) hne,Below.heap_alloc _ _ _ (by rw [e];exact hk),e]
theorem grown_pre2 {W V w2:World} {tmp:Obj} {r:Option Nat} (e:V.heap = (W.alloc tmp).heap) (h1:V.os = W.os) (h2:V.tape = W.tape) (h3:V.output = W.output) (hg:V.grownBy w2 r):W.grownBy w2 r:=by
 have hs:V.heap.size = W.heap.size+1:=by rw [e];simp
 refine ⟨hg.os.trans h1,hg.tape.trans h2,hg.output.trans h3,by have:=hg.size;omega,fun k hk hne=>?_⟩
 rw [hg.block k (by omega) hne,e,Below.heap_alloc _ _ _ hk]
theorem TB.addN {W w2:World} {x:Nat} {vN vC:Value} {L:List Nd} {m:Nat} {C:Nat→Nat} (H:TB W x vN vC L m C) (hg:W.grownBy w2 vN.ownBlock) {g cap:Nat} {p:Nat} (hown:w2.ownsRow (x+1) 117 1 (.slice (some ⟨g,0,none⟩) (L.length+1) cap) (L.length+1) ((L.map fun d=>ptr d.X)++[ptr p])) (hat:vN.ownBlock = some g∨W.heap.size≤g)
 (d:Nd) (hd:d.X = p) (hnd:NdAt W x vN vC d) (hone:OneL (L++[d])) :
 TB (w2.setCell ⟨x,0,none⟩ (.slice (some ⟨g,0,none⟩) (L.length+1) cap)) x (.slice (some ⟨g,0,none⟩) (L.length+1) cap) vC (L++[d]) m C∧WK W (w2.setCell ⟨x,0,none⟩ (.slice (some ⟨g,0,none⟩) (L.length+1) cap)) x vN vC (.slice (some ⟨g,0,none⟩) (L.length+1) cap) vC∧w2.heap[x]? = some (.cells #[vN,vC] 115 (0,0)):=by
 have hx:=H.lt
 have hsz:=hg.size
 have hb:∀ q,q < W.heap.size→some q≠vN.ownBlock→w2.heap[q]? = W.heap[q]?:=fun q hq hne=>hg.block q hq hne
 have hxN:some x≠vN.ownBlock:=fun e=>by have:=(World.ownsRow.lt H.rowN x e.symm).1;omega
 have hcx:w2.heap[x]? = some (.cells #[vN,vC] 115 (0,0)):=(hb x hx hxN).trans H.cell
 have hgx:x+1≤g:=(World.ownsRow.lt hown g rfl).1
 have hset:∀ q,q≠x→(w2.setCell ⟨x,0,none⟩ (.slice (some ⟨g,0,none⟩) (L.length+1) cap)).heap[q]? = w2.heap[q]?:=fun q hq=>Below.heap_setCell _ _ _ q hq
 have hwk:WK W (w2.setCell ⟨x,0,none⟩ (.slice (some ⟨g,0,none⟩) (L.length+1) cap)) x vN vC (.slice (some ⟨g,0,none⟩) (L.length+1) cap) vC:=by
  refine ⟨hg.os,hg.tape,hg.output,?_,fun q hq h1 h2 h3=>?_,fun q hq=>?_,fun q hq=>.inl hq⟩
  ·have:=(KeepsWalks.setCell w2 ⟨x,0,none⟩ (Value.slice (some ⟨g,0,none⟩) (L.length+1) cap)).size
   omega
  ·rw [hset q h1,hb q hq h2]
  ·obtain rfl:g = q:=by simpa [Value.ownBlock] using hq
   rcases hat with e | e
   ·exact .inl e
   ·exact .inr (by omega)
 refine ⟨⟨(set_two hcx _).1,?_,?_,fun q hq=>?_,hone⟩,hwk,hcx⟩
 ·have h1:=ownsRow_keep hown (W':=w2.setCell ⟨x,0,none⟩ (.slice (some ⟨g,0,none⟩) (L.length+1) cap)) fun q hq=>hset q (fun e=>by have:g = q:=(by simpa [Value.ownBlock] using hq);omega)
  rw [List.length_append,List.length_singleton,List.map_append,List.map_singleton,hd]
  exact h1
 ·refine ownsRow_keep H.rowC fun q hq=>?_
  have hq2:=World.ownsRow.lt H.rowC q hq
  rw [hset q (by omega),hb q hq2.2 fun e=>H.apart e.symm hq]
 ·rcases List.mem_append.1 hq with hq | hq
  ·exact (H.nds q hq).keep hwk
  ·rw [List.mem_singleton] at hq
   subst hq
   exact hnd.keep hwk
theorem TB.addC {W w2:World} {x:Nat} {vN vC:Value} {L:List Nd} {m:Nat} {C:Nat→Nat} (H:TB W x vN vC L m C) (hg:W.grownBy w2 vC.ownBlock) {g cap:Nat} (hown:w2.ownsRow (x+1) 3 1 (.slice (some ⟨g,0,none⟩) (m+1) cap) (m+1) ((Mt.clL m C).map (Value.int .i64)++[.int .i64 (m:Int)])) (hat:vC.ownBlock = some g∨W.heap.size≤g) :
 TB (w2.setCell ⟨x,1,none⟩ (.slice (some ⟨g,0,none⟩) (m+1) cap)) x vN (.slice (some ⟨g,0,none⟩) (m+1) cap) L (m+1) (extC m C)∧WK W (w2.setCell ⟨x,1,none⟩ (.slice (some ⟨g,0,none⟩) (m+1) cap)) x vN vC vN (.slice (some ⟨g,0,none⟩) (m+1) cap)∧w2.heap[x]? = some (.cells #[vN,vC] 115 (0,0)):=by
 have hx:=H.lt
 have hsz:=hg.size
 have hb:∀ q,q < W.heap.size→some q≠vC.ownBlock→w2.heap[q]? = W.heap[q]?:=fun q hq hne=>hg.block q hq hne
 have hxC:some x≠vC.ownBlock:=fun e=>by have:=(World.ownsRow.lt H.rowC x e.symm).1;omega
 have hcx:w2.heap[x]? = some (.cells #[vN,vC] 115 (0,0)):=(hb x hx hxC).trans H.cell
 have hgx:x+1≤g:=(World.ownsRow.lt hown g rfl).1
 have hset:∀ q,q≠x→(w2.setCell ⟨x,1,none⟩ (.slice (some ⟨g,0,none⟩) (m+1) cap)).heap[q]? = w2.heap[q]?:=fun q hq=>Below.heap_setCell _ _ _ q hq
 have hwk:WK W (w2.setCell ⟨x,1,none⟩ (.slice (some ⟨g,0,none⟩) (m+1) cap)) x vN vC vN (.slice (some ⟨g,0,none⟩) (m+1) cap):=by
  refine ⟨hg.os,hg.tape,hg.output,?_,fun q hq h1 h2 h3=>?_,fun q hq=>.inl hq,fun q hq=>?_⟩
  ·have:=(KeepsWalks.setCell w2 ⟨x,1,none⟩ (Value.slice (some ⟨g,0,none⟩) (m+1) cap)).size
   omega
  ·rw [hset q h1,hb q hq h3]
  ·obtain rfl:g = q:=by simpa [Value.ownBlock] using hq
   rcases hat with e | e
   ·exact .inl e
   ·exact .inr (by omega)
 refine ⟨⟨(set_two hcx _).2,?_,?_,fun q hq=>(H.nds q hq).keep hwk,H.one⟩,hwk,hcx⟩
 ·refine ownsRow_keep H.rowN fun q hq=>?_
  have hq2:=World.ownsRow.lt H.rowN q hq
  rw [hset q (by omega),hb q hq2.2 fun e=>H.apart hq e.symm]
 ·have h1:=ownsRow_keep hown (W':=w2.setCell ⟨x,1,none⟩ (.slice (some ⟨g,0,none⟩) (m+1) cap)) fun q hq=>hset q (fun e=>by have:g = q:=(by simpa [Value.ownBlock] using hq);omega)
  have e:Mt.clL (m+1) (extC m C) = Mt.clL m C++[(m:Int)]:=by
   unfold Mt.clL
   rw [List.range_succ,List.map_append,List.map_singleton]
   congr 1
   ·exact List.map_congr_left fun k hk=>by rw [extC_lt (List.mem_range.1 hk)]
   ·simp [extC]
  show World.ownsRow _ _ _ _ _ _ _
  rw [Mt.clL_length,e,List.map_append,List.map_singleton]
  exact h1
theorem least {P:Nat→Prop}:∀ n,(∃ k,k < n∧P k)→∃ k,k < n∧P k∧∀ j,j < k→¬ P j:=by
 intro n
 induction n with
 | zero=>rintro ⟨k,h,_⟩;omega
 | succ n ih =>
  intro h
  by_cases h1:∃ k,k < n∧P k
  ·obtain ⟨k,hk,h2,h3⟩:=ih h1
   exact ⟨k,by omega,h2,h3⟩
  ·obtain ⟨k,hk,h2⟩:=h
   have:k = n:=by
    by_cases e:k = n
    ·exact e
    ·exact absurd ⟨k,by omega,h2⟩ h1
   subst this
   exact ⟨k,by omega,h2,fun j hj hp=>h1 ⟨j,hj,hp⟩⟩
def NodeAns (W W':World) (e:Ending) (x:Nat) (vN vC:Value) (L:List Nd) (C:Nat→Nat) (p:Nat) (z:List Int):Prop :=
 ∃ (i:Nat) (vN' vC':Value) (M:List Nd),e = .returned (.int .i64 (i:Int))∧FndL (L++M) p z i∧(∀ d∈M,FullL (L++M) d)∧TB W' x vN' vC' (L++M) (L++M).length (extC L.length C)∧WK W W' x vN vC vN' vC'∧M.length≤z.length
end Go.Proofs.YtglohanbpjaieaaGreat
