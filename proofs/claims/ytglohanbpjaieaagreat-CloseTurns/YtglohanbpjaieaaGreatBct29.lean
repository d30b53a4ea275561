/-
  Parts of the proof: RRef2, PRef3, Clo19, Clo20.
-/
import Derived.Deep.QuietTactic
import Derived.BigQuiet
import Derived.Test.YtglohanbpjaieaaGreatBct28
import Derived.Test.YtglohanbpjaieaaGreatBct20
import Derived.Test.YtglohanbpjaieaaGreatBct17
import Derived.Test.YtglohanbpjaieaaGreatBct11
import Derived.Deep.RegionHeld3
import Derived.Test.YtglohanbpjaieaaGreatBct25
import Derived.Test.YtglohanbpjaieaaGreatBct6
namespace Go.Proofs.YtglohanbpjaieaaGreat
open Go.Proofs Go.RowKit Go.Shelf Go.Maps
theorem ruleErr_fit {L R:List Int} (h:Tm.fitErr L R≠0):Tm.ruleErr L R = Tm.fitErr L R:=by
 unfold Tm.fitErr at h ⊢
 unfold Tm.ruleErr
 simp only [Tm.firstErr] at h ⊢
 by_cases h1:Tm.err L = 0
 ·rw [if_pos h1] at h ⊢
  rw [if_pos h1]
  by_cases h2:Tm.err R = 0
  ·rw [if_pos h2] at h;exact absurd rfl h
  ·rw [if_neg h2,if_neg h2]
 ·rw [if_neg h1,if_neg h1]
theorem ruleErr_fit0 {L R:List Int} (h:Tm.fitErr L R = 0):Tm.ruleErr L R = (if L.any foreignB = true then 3 else if R.any foreignB = true then 3 else if L[0]?.getD 0 < 0 then 1 else if R.any (freeIn L) = true then 4 else 0):=by
 obtain ⟨h1,h2⟩:=Tm.fitErr_ok h
 unfold Tm.ruleErr
 rw [if_pos h1,if_pos h2]
theorem below_drewO {n:Nat} {a b:World} (h:Below n a b) (d:Nat):Below n a (b.drewN d):=⟨h.os,h.tape,h.output,h.size,h.block⟩
set_option maxRecDepth 100000 in
set_option maxHeartbeats 2000000 in
theorem rulesError_any (rs:RuleL) (a:Option Addr) (cap:Nat) (w:World) (hI:RulesAt w.heap.size w a rs) :
 Calls Tryz.prog 13 #[.slice a rs.length cap] w fun e w'=>e = .returned (.int .i64 (Tm.rulesErr rs))∧Below w.heap.size w w':=by
 by_cases h8:8 < rs.length
 ·have h8':(8:Int) < (rs.length:Int):=by omega
  have hv:Tm.rulesErr rs = 2:=by unfold Tm.rulesErr;rw [if_pos h8]
  rw [hv]
  clear h8 hv hI
  go_enter Tryz.func13,Tryz.ntmps13
  go_wp2
  go_ret
  exact ⟨rfl,Below.refl _ _⟩
 ·have h8':(rs.length:Int)≤8:=by omega
  have hv:Tm.rulesErr rs = Tm.firstRule rs:=by unfold Tm.rulesErr;rw [if_neg h8]
  rw [hv]
  clear hv h8
  go_enter Tryz.func13,Tryz.ntmps13
  go_wp2
  go_loopw [3] (fun v wr=>∃ k:Nat,k≤rs.length∧v = .int .i64 (k:Int)∧Hid (Tm.firstRule rs = Tm.firstRule (rs.drop k))∧Below w.heap.size w wr) (fun v _=>rs.length - (intOf v).toNat)
  case atStart=>exact ⟨0,Nat.zero_le _,rfl,hid rfl,Below.refl _ _⟩
  case round =>
   obtain ⟨k,hk,rfl,hst,hB⟩:=hrel
   obtain ⟨u0,rfl⟩:∃ u0,u0 = wr:=⟨wr,rfl⟩
   by_cases hlt:k < rs.length
   ·have hlt':(k:Int) < (rs.length:Int):=by omega
    obtain ⟨b,off,rfl,hb,aL,cL,aR,cR,h1,h2,h3,h4,_⟩:=(hI.below hB) k hlt
    have hs1:=hid (Tm.firstRule_step hlt)
    have hs2:=hid (Tm.firstRule_at hlt)
    obtain ⟨L,hL⟩:∃ L,(rs[k]?.getD ([],[])).1 = L:=⟨_,rfl⟩
    obtain ⟨R,hR⟩:∃ R,(rs[k]?.getD ([],[])).2 = R:=⟨_,rfl⟩
    rw [hL] at h1 h3 hs1 hs2
    rw [hR] at h2 h4 hs1 hs2
    have hBa:Below u0.heap.size u0 (u0.alloc (.cells #[.slice aL L.length cL,.slice aR R.length cR] 54)):=(Below.refl _ u0).alloc (Nat.le_refl _) _
    have hblk:=World.alloc_heap_new u0 (.cells #[.slice aL L.length cL,.slice aR R.length cR] 54)
    have d0:(u0.alloc (.cells #[.slice aL L.length cL,.slice aR R.length cR] 54)).cell? ⟨u0.heap.size,0,none⟩ = some (.slice aL L.length cL):=by rw [cell_at hblk];rfl
    have d1:(u0.alloc (.cells #[.slice aL L.length cL,.slice aR R.length cR] 54)).cell? ⟨u0.heap.size,1,none⟩ = some (.slice aR R.length cR):=by rw [cell_at hblk];rfl
    have hltB:u0.heap.size < (u0.alloc (.cells #[.slice aL L.length cL,.slice aR R.length cR] 54)).heap.size:=by simp
    have iL:=((h3.mono hB.size).below hBa).mono hBa.size
    have iR:=((h4.mono hB.size).below hBa).mono hBa.size
    have hBw:=hB.trans (hBa.mono hB.size)
    have C1:=hid (twoErrors_any L R aL aR cL cR (u0.alloc (.cells #[.slice aL L.length cL,.slice aR R.length cR] 54)) iL iR)
    clear hL hR h3 h4 hI hblk
    by_cases hf:Tm.fitErr L R = 0
    ·obtain ⟨k1,k2⟩:=Tm.fitErr_ok hf
     have lL:=Tm.err_len k1
     have lR:=Tm.err_len k2
     have pL:=Tm.err_pos k1
     have pL':(0:Int) < (L.length:Int):=by omega
     have lR':(R.length:Int)≤30:=by omega
     have hre:=ruleErr_fit0 hf
     rw [hf] at C1
     have C3:=hid (refOwn_any L aL cL (u0.alloc (.cells #[.slice aL L.length cL,.slice aR R.length cR] 54)) iL (by unfold maxLen;omega))
     have C4:=hid (refOwn_any R aR cR (u0.alloc (.cells #[.slice aL L.length cL,.slice aR R.length cR] 54)) iR (by unfold maxLen;omega))
     obtain ⟨bl,ol,rfl,_,cl⟩:=iL.at pL
     have c0:=cl 0 pL
     simp only [Nat.add_zero] at c0
     clear cl hf k1 k2
     have HL:=hid (fun W (hW:Below (u0.alloc (.cells #[.slice (some ⟨bl,ol,none⟩) L.length cL,.slice aR R.length cR] 54)).heap.size (u0.alloc (.cells #[.slice (some ⟨bl,ol,none⟩) L.length cL,.slice aR R.length cR] 54)) W)=>(iL.below hW).mono hW.size)
     have HR:=hid (fun W (hW:Below (u0.alloc (.cells #[.slice (some ⟨bl,ol,none⟩) L.length cL,.slice aR R.length cR] 54)).heap.size (u0.alloc (.cells #[.slice (some ⟨bl,ol,none⟩) L.length cL,.slice aR R.length cR] 54)) W)=>(iR.below hW).mono hW.size)
     have D0:=hid (fun W (hW:Below (u0.alloc (.cells #[.slice (some ⟨bl,ol,none⟩) L.length cL,.slice aR R.length cR] 54)).heap.size (u0.alloc (.cells #[.slice (some ⟨bl,ol,none⟩) L.length cL,.slice aR R.length cR] 54)) W)=>(hW.cell (p:=⟨u0.heap.size,0,none⟩) hltB).trans d0)
     have D1:=hid (fun W (hW:Below (u0.alloc (.cells #[.slice (some ⟨bl,ol,none⟩) L.length cL,.slice aR R.length cR] 54)).heap.size (u0.alloc (.cells #[.slice (some ⟨bl,ol,none⟩) L.length cL,.slice aR R.length cR] 54)) W)=>(hW.cell (p:=⟨u0.heap.size,1,none⟩) hltB).trans d1)
     clear iL iR
     cases q1:L.any foreignB with
     | true =>
      rw [q1,if_pos rfl] at hre
      rw [q1] at C3
      have Hs:=hid ((hs2.out (by rw [hre];decide)).trans hre)
      clear q1 hre hs1 hs2 C4
      go_wp2_with (first
       | (go_at_call 39;refine C1.out.mono ?_;clear C1;rintro e w2 ⟨rfl,rfl⟩)
       | (go_at_call 40;refine C3.out.mono ?_;clear C3;rintro e w2 ⟨rfl,rfl⟩))
      go_ret
      exact ⟨ret_int (hst.out.trans Hs.out).symm,hBw⟩
     | false =>
      rw [q1,if_neg (by decide)] at hre
      rw [q1] at C3
      cases q2:R.any foreignB with
      | true =>
       rw [q2,if_pos rfl] at hre
       rw [q2] at C4
       have Hs:=hid ((hs2.out (by rw [hre];decide)).trans hre)
       clear q1 q2 hre hs1 hs2
       go_wp2_with (first
        | (go_at_call 39;refine C1.out.mono ?_;clear C1;rintro e w2 ⟨rfl,rfl⟩)
        | (go_at_call_of 40 (Value.slice (some ⟨bl,ol,none⟩) L.length cL);refine C3.out.mono ?_;clear C3;rintro e w2 ⟨rfl,rfl⟩)
        | (go_at_call_of 40 (Value.slice aR R.length cR);refine C4.out.mono ?_;clear C4;rintro e w2 ⟨rfl,rfl⟩))
       go_ret
       exact ⟨ret_int (hst.out.trans Hs.out).symm,hBw⟩
      | false =>
       rw [q2,if_neg (by decide)] at hre
       rw [q2] at C4
       clear q1 q2
       generalize L[0]?.getD 0 = s0 at *
       by_cases hs:s0 < 0
       ·rw [if_pos hs] at hre
        have Hs:=hid ((hs2.out (by rw [hre];decide)).trans hre)
        clear hre hs1 hs2
        go_wp2_with (first
         | (go_at_call 39;refine C1.out.mono ?_;clear C1;rintro e w2 ⟨rfl,rfl⟩)
         | (go_at_call_of 40 (Value.slice (some ⟨bl,ol,none⟩) L.length cL);refine C3.out.mono ?_;clear C3;rintro e w2 ⟨rfl,rfl⟩)
         | (go_at_call_of 40 (Value.slice aR R.length cR);refine C4.out.mono ?_;clear C4;rintro e w2 ⟨rfl,rfl⟩))
        go_ret
        exact ⟨ret_int (hst.out.trans Hs.out).symm,hBw⟩
       ·rw [if_neg hs] at hre
        have hs':decide (s0 < 0) = false:=by simpa using hs
        have Hre:=hid hre
        clear hre hs
        go_wp2_with (first
         | (go_at_call 39;refine C1.out.mono ?_;clear C1;rintro e w2 ⟨rfl,rfl⟩)
         | (go_at_call_of 40 (Value.slice (some ⟨bl,ol,none⟩) L.length cL);refine C3.out.mono ?_;clear C3;rintro e w2 ⟨rfl,rfl⟩)
         | (go_at_call_of 40 (Value.slice aR R.length cR);refine C4.out.mono ?_;clear C4;rintro e w2 ⟨rfl,rfl⟩))
        go_loopw [6] (fun v W=>∃ m:Nat,m≤R.length∧v = .int .i64 (m:Int)∧Hid ((R.take m).any (freeIn L) = false)∧Below (u0.alloc (.cells #[.slice (some ⟨bl,ol,none⟩) L.length cL,.slice aR R.length cR] 54)).heap.size (u0.alloc (.cells #[.slice (some ⟨bl,ol,none⟩) L.length cL,.slice aR R.length cR] 54)) W) (fun v _=>R.length - (intOf v).toNat)
        case atStart=>exact ⟨0,Nat.zero_le _,rfl,hid (by simp),Below.refl _ _⟩
        case round =>
         obtain ⟨m,hm,rfl,hfr,hBm⟩:=hrel
         have d0:=D0.out wr hBm
         have d1:=D1.out wr hBm
         by_cases hm2:m < R.length
         ·have hm2':(m:Int) < (R.length:Int):=by omega
          obtain ⟨br,or',eR,_,cr⟩:=(HR.out wr hBm) m hm2
          rw [eR] at d1
          have hsn:=hid (any_snoc (p:=freeIn L) hm2 hfr.out)
          have hye:=hid (any_yes (p:=freeIn L) hm2)
          have hSt:=hid (fun W (hW:Below (u0.alloc (.cells #[.slice (some ⟨bl,ol,none⟩) L.length cL,.slice aR R.length cR] 54)).heap.size (u0.alloc (.cells #[.slice (some ⟨bl,ol,none⟩) L.length cL,.slice aR R.length cR] 54)) W)=>refStands_any L (R[m]?.getD 0) (some ⟨bl,ol,none⟩) cL W (HL.out W hW) (by unfold maxLen;omega))
          generalize R[m]?.getD 0 = x at *
          by_cases hx:x < 0
          ·cases hq:Tm.hasB L x with
           | true =>
            rw [hq] at hSt
            have hz:freeIn L x = false:=by unfold freeIn;rw [hq];simp
            have Hn:=hid (hsn.out hz)
            clear hz hq hsn hye
            go_wp2_with fail
            go_quiet ((go_at_call 41;exact Calls.quiet_of_same (hSt.out _ (below_drewO hBm _))))
            go_wp2
            go_roundw
            case rel=>exact ⟨m+1,by omega,by go_num,hid Hn.out,below_drewO hBm _⟩
            case measure=>simp [intOf];omega
           | false =>
            rw [hq] at hSt
            have hz:freeIn L x = true:=by unfold freeIn;rw [hq,decide_eq_true hx];rfl
            have hre:=Hre.out
            rw [hye.out hz,if_pos rfl] at hre
            have Hs:=hid ((hs2.out (by rw [hre];decide)).trans hre)
            clear hz hq hsn hye hre
            go_wp2_with fail
            go_quiet ((go_at_call 41;exact Calls.quiet_of_same (hSt.out _ (below_drewO hBm _))))
            go_wp2
            go_ret
            exact ⟨ret_int (hst.out.trans Hs.out).symm,hBw.trans ((below_drewO hBm _).mono hBw.size)⟩
          ·have hx':decide (x < 0) = false:=by simpa using hx
           have hz:freeIn L x = false:=by unfold freeIn;rw [hx'];rfl
           have Hn:=hid (hsn.out hz)
           clear hz hsn hye hx
           go_wp2_with fail
           go_quiet (fail)
           go_wp2
           go_roundw
           case rel=>exact ⟨m+1,by omega,by go_num,hid Hn.out,below_drewO hBm _⟩
           case measure=>simp [intOf];omega
         ·obtain rfl:m = R.length:=by omega
          rw [List.take_length] at hfr
          have hre:=Hre.out
          rw [hfr.out,if_neg (by decide)] at hre
          have Hs:=hid (hs1.out hre)
          clear hre
          go_wp2
          go_roundw
          case rel=>exact ⟨k+1,by omega,by go_num,hid (hst.out.trans Hs.out),hBw.trans (hBm.mono hBw.size)⟩
          case measure=>simp [intOf];omega
    ·have hn:(Tm.fitErr L R != 0) = true:=by simpa using hf
     have hre:=ruleErr_fit hf
     have Hs:=hid ((hs2.out (by rw [hre];exact hf)).trans hre)
     clear hf hre hs1 hs2
     generalize Tm.fitErr L R = q at *
     go_wp2_with (first
      | (go_at_call 39;refine C1.out.mono ?_;clear C1;rintro e w2 ⟨rfl,rfl⟩))
     go_ret
     exact ⟨ret_int (hst.out.trans Hs.out).symm,hBw⟩
   ·obtain rfl:k = rs.length:=by omega
    go_wp2
    go_ret
    exact ⟨by rw [hst.out,List.drop_length];rfl,hB⟩
theorem Tm.others_run (t:List Int):∀ n,Tm.run (Tm.others t) n = Tm.run t n:=by
 induction t with
 | nil=>intro n;rfl
 | cons s l ih =>
  intro n
  cases n with
  | zero=>rw [Tm.run_zero,Tm.run_zero]
  | succ n =>
   show Tm.run (Tm.oth s :: Tm.others l) (n+1) = _
   have hr:Tm.room (Tm.oth s) = Tm.room s:=by
    unfold Tm.oth
    by_cases hs:s < 0
    ·rw [if_pos hs,Wb.room_var hs,Wb.room_var (by omega)]
    ·rw [if_neg hs]
   rw [Tm.run_cons,Tm.run_cons,hr,ih]
theorem Tm.others_err {t:List Int} (h:Tm.err t = 0) (hf:t.any foreignB = false):Tm.err (Tm.others t) = 0:=by
 refine Tm.err_ok (by rw [Tm.others_length];exact Tm.err_len h) ?_ (by rw [Tm.others_run,Tm.others_length];exact Tm.err_run h)
 rw [List.all_eq_true]
 intro s hs
 obtain ⟨q,hq,rfl⟩:=List.mem_map.1 hs
 obtain ⟨h1,h2⟩:=Tm.known_mem h hq
 have h3:=List.any_eq_false.1 hf q hq
 simp only [foreignB,decide_eq_true_eq] at h3
 refine Tm.known_of ?_ ?_ <;> (unfold Tm.oth;split <;> omega)
theorem Tm.MeetSays.bad {ps:PairL} {er:Int} {is:Bool} {val:List (List Int)} (h:Tm.MeetSays ps er is val) (h0:Tm.firstPair ps = 0) (he:er≠0):er = 2:=by
 rcases h with ⟨h1,_⟩ | ⟨_,_,h,_⟩ | ⟨_,_,_,_,h,_⟩ | ⟨_,_,_,_,h,_⟩
 ·exact absurd h0 h1
 ·exact absurd h he
 ·exact absurd h he
 ·exact h
theorem Tm.LapsErr.two {L1 R1 L2 R2:List Int} {pass:Nat→Bool} {e:Int} (h:Tm.LapsErr L1 R1 L2 R2 pass e) (e1:Tm.err L1 = 0) (eR:Tm.err R1 = 0) (e2:Tm.err L2 = 0) (eR2:Tm.err R2 = 0):e = 2:=by
 obtain ⟨h0,m,l,hm,hl,hp,⟨is,val,hs⟩ | ⟨val,hs,he⟩⟩:=h
 ·exact hs.bad (by rw [Tm.firstPair_one,Tm.pairErr_zero];exact ⟨Tm.part_err e1 hm,e2⟩) h0
 ·obtain ⟨hsub,_⟩:=Tm.meet_true hs
  rcases Tm.prt_ref (val:=val) hsub e1 eR eR2 hm with ⟨_,_,h3,_⟩ | ⟨_,h3⟩
  ·rw [h3] at he;exact absurd he.symm h0
  ·rw [h3] at he;exact he.symm
theorem Tm.LapsSays.one {L1 R1 L2 R2:List Int} {pass:Nat→Bool} {e e':Int} {ps ps':PairL} (h:Tm.LapsSays L1 R1 L2 R2 pass e ps) (h':Tm.LapsSays L1 R1 L2 R2 pass e' ps') (e1:Tm.err L1 = 0) (eR:Tm.err R1 = 0) (e2:Tm.err L2 = 0) (eR2:Tm.err R2 = 0):e = e'∧ps = ps':=by
 have h2:=h
 rcases h with ⟨rfl,hl⟩ | ⟨hb,rfl⟩
 ·obtain ⟨a,b⟩:=h'.right hl
  exact ⟨a.symm,b.symm⟩
 ·have h3:=h'
  rcases h' with ⟨rfl,hl⟩ | ⟨hb',rfl⟩
  ·obtain ⟨a,b⟩:=h2.right hl
   exact absurd a hb.1
  ·rw [hb.two e1 eR e2 eR2,hb'.two e1 eR e2 eR2]
   exact ⟨rfl,rfl⟩
theorem Tm.OfSays.one {rs:RuleL} {i j er er':Int} {ps ps':PairL} (h:Tm.OfSays rs i j er ps) (h':Tm.OfSays rs i j er' ps'):er = er'∧ps = ps':=by
 rcases h with ⟨h1,rfl,rfl⟩ | ⟨h1,h2,rfl,rfl⟩ | ⟨h1,a,b,ha,hb,rfl,rfl,h2⟩ <;> rcases h' with ⟨k1,rfl,rfl⟩ | ⟨k1,k2,rfl,rfl⟩ | ⟨k1,c,d,hc,hd,e1,e2,k2⟩
 ·exact ⟨rfl,rfl⟩
 ·exact absurd k1 h1
 ·exact absurd k1 h1
 ·exact absurd h1 k1
 ·exact ⟨rfl,rfl⟩
 ·exact absurd ⟨by omega,by omega,by omega,by omega⟩ h2
 ·exact absurd h1 k1
 ·exact absurd ⟨by omega,by omega,by omega,by omega⟩ k2
 ·obtain rfl:a = c:=by omega
  obtain rfl:b = d:=by omega
  obtain ⟨_,hall⟩:=Tm.rulesErr_ok h1
  obtain ⟨eL,eR,_⟩:=Tm.ruleErr_ok (hall a ha)
  obtain ⟨eL2,eR2,fL,fR,_⟩:=Tm.ruleErr_ok (hall b hb)
  exact h2.one k2 eL eR (Tm.others_err eL2 fL) (Tm.others_err eR2 fR)
set_option maxRecDepth 100000 in
set_option maxHeartbeats 1000000 in
theorem samePairs_yes (ps:PairL) (a b:Option Addr) (ca cb:Nat) (w:World) (hA:RulesAt w.heap.size w a ps) (hB:RulesAt w.heap.size w b ps) (hl:ps.length≤1000) (h30:∀ k,k < ps.length→(ps[k]?.getD ([],[])).1.length≤1000∧(ps[k]?.getD ([],[])).2.length≤1000) :
 Calls Tryz.prog 10 #[.slice a ps.length ca,.slice b ps.length cb] w fun e w'=>e = .returned (.bool true)∧Below w.heap.size w w':=by
 have hl':(ps.length:Int)≤1000:=by omega
 have hne:((ps.length:Int) != (ps.length:Int)) = false:=by simp
 have HA:=hid hA
 have HB:=hid hB
 have H30:=hid h30
 clear hA hB h30
 go_enter Tryz.func10,Tryz.ntmps10
 go_wp2
 go_loopw [5] (fun i wr=>∃ k:Nat,k≤ps.length∧i = .int .i64 (k:Int)∧Below w.heap.size w wr) (fun i _=>ps.length - (intOf i).toNat)
 case atStart=>exact ⟨0,Nat.zero_le _,rfl,Below.refl _ _⟩
 case round =>
  obtain ⟨k,hk,rfl,hBk⟩:=hrel
  by_cases hlt:k < ps.length
  ·have hlt':(k:Int) < (ps.length:Int):=by omega
   obtain ⟨b1,o1,rfl,_,aL,cL,aR,cR,c1,c2,i1,i2,_⟩:=(HA.out.below hBk) k hlt
   obtain ⟨b2,o2,rfl,_,aL2,cL2,aR2,cR2,d1,d2,j1,j2,_⟩:=(HB.out.below hBk) k hlt
   obtain ⟨l1,l2⟩:=H30.out k hlt
   have HS1:=hid (fun n:Nat=>same_quiet (ps[k]?.getD ([],[])).1 (ps[k]?.getD ([],[])).1 aL aL2 cL cL2 w.heap.size (wr.drewN n) i1 j1 (by omega))
   have HS2:=hid (fun n:Nat=>same_quiet (ps[k]?.getD ([],[])).2 (ps[k]?.getD ([],[])).2 aR aR2 cR cR2 w.heap.size (wr.drewN n) i2 j2 (by omega))
   rw [show sameB (ps[k]?.getD ([],[])).1 (ps[k]?.getD ([],[])).1 = true by simp [sameB]] at HS1
   rw [show sameB (ps[k]?.getD ([],[])).2 (ps[k]?.getD ([],[])).2 = true by simp [sameB]] at HS2
   clear i1 i2 j1 j2 l1 l2
   generalize (ps[k]?.getD ([],[])).1.length = n1 at *
   generalize (ps[k]?.getD ([],[])).2.length = n2 at *
   go_wp2
   go_quiet ((first
    | (go_at_call_of 25 (Value.slice aL n1 cL);exact Calls.quiet_of (HS1.out _))
    | (go_at_call_of 25 (Value.slice aR n2 cR);exact Calls.quiet_of (HS2.out _))))
   go_wp2
   go_roundw
   case rel=>exact ⟨k+1,by omega,by go_num,below_drewN hBk _⟩
   case measure=>simp [intOf];omega
  ·obtain rfl:k = ps.length:=by omega
   go_wp2
   go_ret
   exact ⟨rfl,hBk⟩
def RefOfAns (rs:RuleL) (i j:Int) (w:World) (e:Ending) (w':World):Prop:=Below w.heap.size w w'∧∃ er ps v,Tm.OfSays rs i j er ps∧e = .returned (.tuple #[v,.int .i64 er])∧NewQ w.heap.size w' v ps
theorem refof_idx (rs:RuleL) (i j:Nat) (hi:i < rs.length) (hj:j < rs.length) (a:Option Addr) (cap:Nat) (w:World) (hr:Tm.rulesErr rs = 0) (hR:RulesAt w.heap.size w a rs) :
 Calls Tryz.prog 88 #[.slice a rs.length cap,.int .i64 (i:Int),.int .i64 (j:Int)] w fun e w'=>RefOfAns rs (i:Int) (j:Int) w e w':=by
 obtain ⟨h8,hall⟩:=Tm.rulesErr_ok hr
 obtain ⟨eL,eR,_⟩:=Tm.ruleErr_ok (hall i hi)
 obtain ⟨eL2,eR2,fL,fR,_⟩:=Tm.ruleErr_ok (hall j hj)
 refine (refof_right (rs[i]?.getD ([],[])).1 (rs[i]?.getD ([],[])).2 (rs[j]?.getD ([],[])).1 (rs[j]?.getD ([],[])).2 rs i j hi hj a cap w h8 hR rfl rfl eL eR eL2 eR2 (Tm.others_err eL2 fL) (Tm.others_err eR2 fR)).mono ?_
 rintro e w' ⟨hB,er,ps,v,hs,rfl,hN⟩
 exact ⟨hB,er,ps,v,.inr (.inr ⟨hr,i,j,hi,hj,rfl,rfl,hs⟩),rfl,hN⟩
end Go.Proofs.YtglohanbpjaieaaGreat
namespace Go.Proofs.YtglohanbpjaieaaGreat
open Go.Proofs Go.RowKit Go.Shelf Go.Maps Go.Deep
def RulesZ (w:World) (a:Option Addr) (len cap:Nat):Prop:=RulesIn w a len cap∧(a = none→cap = 0)
theorem rulesZ_open {H:Type} {enc:TypeId × Value→H} {w:World} {fuel:Nat} {a:Option Addr} {len cap:Nat} {cs:List Value} {x:DataW H × List MemPlace} {t e:TypeId} {f0 f1:Field} (ht:Tryz.prog.underlying t = some (.slice e)) (he:Tryz.prog.underlying e = some (.struct #[f0,f1]))
 (ce:Tryz.prog.cellsOf e = 2) (o0:f0.offset = 0) (o1:f1.offset = 1) (t0:f0.type = 35) (t1:f1.type = 35) (hcs:cs = [.slice a len cap]) (h:DataW.trod enc Tryz.prog w 0 (fun _=>true) true fuel t cs = some x):RulesZ w a len cap:=by
 refine ⟨rulesIn_open ht he ce o0 o1 t0 t1 hcs h,fun ha=>?_⟩
 have c1:Tryz.prog.cellsOf 35 = 1:=by kernel_rfl
 rcases open_slice_pairs ht he ce o0 o1 (by rw [t0];exact c1) (by rw [t1];exact c1) h with ⟨hc,_⟩ | ⟨ad,l,c,m,n,V0,V1,D0,D1,P0,P1,hc,_⟩
 ·rw [hcs] at hc
  simp only [List.cons.injEq,Value.slice.injEq,and_true] at hc
  exact hc.2.2
 ·rw [hcs] at hc
  simp only [List.cons.injEq,Value.slice.injEq,and_true] at hc
  rw [ha] at hc
  cases hc.1
theorem olds_cells {n:Nat} {w:World} {ad:Addr} {qs:PairL} (h:RulesAt n w (some ad) qs):∃ us:List Value,us.length = qs.length * 2∧(∀ j u,us[j]? = some u→w.cell? (ad.add j) = some u)∧(∀ u∈us,∃ a n c,u = .slice a n c) ∧
 ∀ j,j < qs.length→∃ aL cL aR cR,us[j * 2]? = some (.slice aL (qs[j]?.getD ([],[])).1.length cL)∧us[j * 2+1]? = some (.slice aR (qs[j]?.getD ([],[])).2.length cR)∧Ints n w aL (qs[j]?.getD ([],[])).1∧Ints n w aR (qs[j]?.getD ([],[])).2∧(qs[j]?.getD ([],[])).1.length≤cL∧cL≤maxLen∧(qs[j]?.getD ([],[])).2.length≤cR∧cR≤maxLen:=by
 have key:∀ k,k < qs.length→∃ aL cL aR cR,w.cell? (ad.add (k * 2)) = some (.slice aL (qs[k]?.getD ([],[])).1.length cL)∧w.cell? (ad.add (k * 2+1)) = some (.slice aR (qs[k]?.getD ([],[])).2.length cR)∧Ints n w aL (qs[k]?.getD ([],[])).1∧Ints n w aR (qs[k]?.getD ([],[])).2∧(qs[k]?.getD ([],[])).1.length≤cL∧cL≤maxLen∧(qs[k]?.getD ([],[])).2.length≤cR∧cR≤maxLen:=fun k hk=>by
  obtain ⟨b,off,e,_,aL,cL,aR,cR,g1,g2,r⟩:=h k hk
  cases e
  exact ⟨aL,cL,aR,cR,by rw [Go.WideShapes.add_plain];exact g1,by rw [Go.WideShapes.add_plain];exact g2,r⟩
 have each:∀ j,j < qs.length * 2→∃ a m c,w.cell? (ad.add j) = some (.slice a m c):=fun j hj=>by
  obtain ⟨aL,cL,aR,cR,g1,g2,_⟩:=key (j / 2) (by omega)
  rcases Nat.mod_two_eq_zero_or_one j with h0 | h0
  ·rw [show j / 2 * 2 = j by omega] at g1;exact ⟨_,_,_,g1⟩
  ·rw [show j / 2 * 2+1 = j by omega] at g2;exact ⟨_,_,_,g2⟩
 have get:∀ j,j < qs.length * 2→((List.range (qs.length * 2)).map fun j=>(w.cell? (ad.add j)).getD (.bool true))[j]? = w.cell? (ad.add j):=fun j hj=>by
  obtain ⟨a,m,c,e⟩:=each j hj
  rw [List.getElem?_map,List.getElem?_range hj,Option.map_some,e,Option.getD_some]
 refine ⟨(List.range (qs.length * 2)).map fun j=>(w.cell? (ad.add j)).getD (.bool true),by simp,fun j u hj=>?_,fun u hu=>?_,fun j hj=>?_⟩
 ·have hl:j < qs.length * 2:=by simpa using (List.getElem?_eq_some_iff.1 hj).1
  rw [get j hl] at hj
  exact hj
 ·obtain ⟨j,hj,rfl⟩:=List.mem_map.1 hu
  rw [List.mem_range] at hj
  obtain ⟨a,m,c,e⟩:=each j hj
  exact ⟨a,m,c,by rw [e];rfl⟩
 ·obtain ⟨aL,cL,aR,cR,g1,g2,r⟩:=key j hj
  exact ⟨aL,cL,aR,cR,(get _ (by omega)).trans g1,(get _ (by omega)).trans g2,r⟩
theorem wp_olds_r {ops:Array Oper} {rest:List Oper} {o:Oper} {a:Act} {Q:Exit→Act→World→Prop} (w:World) (hgd:o.guard = none) (s x:Operand)
 (ho:o.op = .call { callee:=.builtin .append,args:=#[s,x],argTypes:=#[23,23] }) (sb eb:Nat) (hse:eb≤sb) (v:Value) (ps:PairL) (hs:a.eval s = v) (hN:NewX true 54 sb eb w v ps)
 (a2:Option Addr) (c2:Nat) (qs:PairL) (hx:a.eval x = .slice a2 qs.length c2) (hn:a2 = none→c2 = 0) (hM:RulesAt eb w a2 qs) (hew:eb≤w.heap.size) (hlen:ps.length+qs.length≤100000) (hbase:sb≤w.heap.size)
 (h:∀ v' w',NewX true 54 sb eb w' v' (ps++qs)→w.grownBy w' v.ownBlock→Below sb w w'→wpList Tryz.prog ops Q rest (a.put o.dst v') w'):wpList Tryz.prog ops Q (o :: rest) a w:=by
 obtain ⟨i0,hi,hz0,hz1,hz2⟩:=info_parts Tryz.info54
 obtain ⟨us,h1,h2⟩:=hN
 have hul:us.length = ps.length * 2:=h1.1
 cases a2 with
 | none =>
  have hc:=hn rfl
  obtain rfl:qs = []:=by
   cases qs with
   | nil=>rfl
   | cons q l=>obtain ⟨b,off,e,_⟩:=hM 0 (by simp);cases e
  subst hc
  exact wpList_append_own_none hgd s x 23 ho sb 54 i0 2 Tryz.underlying23 hi v ps.length us hs h1 hx (h v w (by rw [List.append_nil];exact ⟨us,h1,h2⟩) ⟨rfl,rfl,rfl,Nat.le_refl _,fun _ _ _=>rfl⟩ (Below.refl _ _))
 | some ad =>
  obtain ⟨us',hu1,hu2,hu3,hu4⟩:=olds_cells hM
  refine wpList_append_own w hgd s x 23 ho sb 54 i0 (.agg #[.slice none 0 0,.slice none 0 0]) 2 48 Tryz.underlying23 hi hz0 hz1 hz2 rfl (by decide) v ps.length us hs h1 ad qs.length c2 us' hx hu1 hu2
   (by intro u hu;obtain ⟨_,_,_,rfl⟩:=hu3 u hu;rfl) (by unfold maxLen;omega) (by omega) hbase ?_
  intro v' w' hown hg _
  have hr:∀ k,v.ownBlock = some k→eb≤k∧∃ cs,w.heap[k]? = some (.cells cs 54 (0,0)):=fun k hk=>⟨Nat.le_trans hse (World.ownsRow.lt h1 k hk).1,own_type h1 hk⟩
  have hk:∀ {a:Option Addr} {zs:List Int},IntR true eb w a zs→IntR true eb w' a zs:=fun h=>h.grown (by decide) hg hr
  refine h v' w' ⟨us++us',by simpa using hown,fun j hj=>?_⟩ hg ((Below.refl sb w).grown hg hbase (fun k e=>(World.ownsRow.lt h1 k e).1))
  by_cases hjl:j < ps.length
  ·obtain ⟨y,yc,y',yc',q1,q2,n1,n2,r⟩:=h2 j hjl
   rw [List.getElem?_append_left hjl,List.getElem?_append_left (by omega),List.getElem?_append_left (by omega)]
   exact ⟨y,yc,y',yc',q1,q2,hk n1,hk n2,r⟩
  ·have hj2:j - ps.length < qs.length:=by rw [List.length_append] at hj;omega
   obtain ⟨y,yc,y',yc',q1,q2,n1,n2,r⟩:=hu4 (j - ps.length) hj2
   rw [List.getElem?_append_right (by omega),List.getElem?_append_right (by omega),List.getElem?_append_right (by omega),hul]
   rw [show j * 2 - ps.length * 2 = (j - ps.length) * 2 by omega,show j * 2+1 - ps.length * 2 = (j - ps.length) * 2+1 by omega]
   exact ⟨y,yc,y',yc',q1,q2,hk (IntR.old n1 hew (Below.refl _ _)),hk (IntR.old n2 hew (Below.refl _ _)),r⟩
theorem wp_olds_p {ops:Array Oper} {rest:List Oper} {o:Oper} {a:Act} {Q:Exit→Act→World→Prop} (w:World) (hgd:o.guard = none) (s x:Operand)
 (ho:o.op = .call { callee:=.builtin .append,args:=#[s,x],argTypes:=#[24,24] }) (sb eb:Nat) (hse:eb≤sb) (v:Value) (ps:PairL) (hs:a.eval s = v) (hN:NewX true 40 sb eb w v ps)
 (a2:Option Addr) (c2:Nat) (qs:PairL) (hx:a.eval x = .slice a2 qs.length c2) (hn:a2 = none→c2 = 0) (hM:RulesAt eb w a2 qs) (hew:eb≤w.heap.size) (hlen:ps.length+qs.length≤100000) (hbase:sb≤w.heap.size)
 (h:∀ v' w',NewX true 40 sb eb w' v' (ps++qs)→w.grownBy w' v.ownBlock→Below sb w w'→wpList Tryz.prog ops Q rest (a.put o.dst v') w'):wpList Tryz.prog ops Q (o :: rest) a w:=by
 obtain ⟨i0,hi,hz0,hz1,hz2⟩:=info_parts Tryz.info40
 obtain ⟨us,h1,h2⟩:=hN
 have hul:us.length = ps.length * 2:=h1.1
 cases a2 with
 | none =>
  have hc:=hn rfl
  obtain rfl:qs = []:=by
   cases qs with
   | nil=>rfl
   | cons q l=>obtain ⟨b,off,e,_⟩:=hM 0 (by simp);cases e
  subst hc
  exact wpList_append_own_none hgd s x 24 ho sb 40 i0 2 Tryz.underlying24 hi v ps.length us hs h1 hx (h v w (by rw [List.append_nil];exact ⟨us,h1,h2⟩) ⟨rfl,rfl,rfl,Nat.le_refl _,fun _ _ _=>rfl⟩ (Below.refl _ _))
 | some ad =>
  obtain ⟨us',hu1,hu2,hu3,hu4⟩:=olds_cells hM
  refine wpList_append_own w hgd s x 24 ho sb 40 i0 (.agg #[.slice none 0 0,.slice none 0 0]) 2 48 Tryz.underlying24 hi hz0 hz1 hz2 rfl (by decide) v ps.length us hs h1 ad qs.length c2 us' hx hu1 hu2
   (by intro u hu;obtain ⟨_,_,_,rfl⟩:=hu3 u hu;rfl) (by unfold maxLen;omega) (by omega) hbase ?_
  intro v' w' hown hg _
  have hr:∀ k,v.ownBlock = some k→eb≤k∧∃ cs,w.heap[k]? = some (.cells cs 40 (0,0)):=fun k hk=>⟨Nat.le_trans hse (World.ownsRow.lt h1 k hk).1,own_type h1 hk⟩
  have hk:∀ {a:Option Addr} {zs:List Int},IntR true eb w a zs→IntR true eb w' a zs:=fun h=>h.grown (by decide) hg hr
  refine h v' w' ⟨us++us',by simpa using hown,fun j hj=>?_⟩ hg ((Below.refl sb w).grown hg hbase (fun k e=>(World.ownsRow.lt h1 k e).1))
  by_cases hjl:j < ps.length
  ·obtain ⟨y,yc,y',yc',q1,q2,n1,n2,r⟩:=h2 j hjl
   rw [List.getElem?_append_left hjl,List.getElem?_append_left (by omega),List.getElem?_append_left (by omega)]
   exact ⟨y,yc,y',yc',q1,q2,hk n1,hk n2,r⟩
  ·have hj2:j - ps.length < qs.length:=by rw [List.length_append] at hj;omega
   obtain ⟨y,yc,y',yc',q1,q2,n1,n2,r⟩:=hu4 (j - ps.length) hj2
   rw [List.getElem?_append_right (by omega),List.getElem?_append_right (by omega),List.getElem?_append_right (by omega),hul]
   rw [show j * 2 - ps.length * 2 = (j - ps.length) * 2 by omega,show j * 2+1 - ps.length * 2 = (j - ps.length) * 2+1 by omega]
   exact ⟨y,yc,y',yc',q1,q2,hk (IntR.old n1 hew (Below.refl _ _)),hk (IntR.old n2 hew (Below.refl _ _)),r⟩
set_option maxRecDepth 100000 in
set_option maxHeartbeats 1000000 in
theorem sameRules_yes (ps:PairL) (a b:Option Addr) (ca cb:Nat) (w:World) (hA:RulesAt w.heap.size w a ps) (hB:RulesAt w.heap.size w b ps) (hl:ps.length≤1000) (h30:∀ k,k < ps.length→(ps[k]?.getD ([],[])).1.length≤1000∧(ps[k]?.getD ([],[])).2.length≤1000) :
 Calls Tryz.prog 9 #[.slice a ps.length ca,.slice b ps.length cb] w fun e w'=>e = .returned (.bool true)∧Below w.heap.size w w':=by
 have hl':(ps.length:Int)≤1000:=by omega
 have hne:((ps.length:Int) != (ps.length:Int)) = false:=by simp
 have HA:=hid hA
 have HB:=hid hB
 have H30:=hid h30
 clear hA hB h30
 go_enter Tryz.func9,Tryz.ntmps9
 go_wp2
 go_loopw [5] (fun i wr=>∃ k:Nat,k≤ps.length∧i = .int .i64 (k:Int)∧Below w.heap.size w wr) (fun i _=>ps.length - (intOf i).toNat)
 case atStart=>exact ⟨0,Nat.zero_le _,rfl,Below.refl _ _⟩
 case round =>
  obtain ⟨k,hk,rfl,hBk⟩:=hrel
  by_cases hlt:k < ps.length
  ·have hlt':(k:Int) < (ps.length:Int):=by omega
   obtain ⟨b1,o1,rfl,_,aL,cL,aR,cR,c1,c2,i1,i2,_⟩:=(HA.out.below hBk) k hlt
   obtain ⟨b2,o2,rfl,_,aL2,cL2,aR2,cR2,d1,d2,j1,j2,_⟩:=(HB.out.below hBk) k hlt
   obtain ⟨l1,l2⟩:=H30.out k hlt
   have HS1:=hid (fun n:Nat=>same_quiet (ps[k]?.getD ([],[])).1 (ps[k]?.getD ([],[])).1 aL aL2 cL cL2 w.heap.size (wr.drewN n) i1 j1 (by omega))
   have HS2:=hid (fun n:Nat=>same_quiet (ps[k]?.getD ([],[])).2 (ps[k]?.getD ([],[])).2 aR aR2 cR cR2 w.heap.size (wr.drewN n) i2 j2 (by omega))
   rw [show sameB (ps[k]?.getD ([],[])).1 (ps[k]?.getD ([],[])).1 = true by simp [sameB]] at HS1
   rw [show sameB (ps[k]?.getD ([],[])).2 (ps[k]?.getD ([],[])).2 = true by simp [sameB]] at HS2
   clear i1 i2 j1 j2 l1 l2
   generalize (ps[k]?.getD ([],[])).1.length = n1 at *
   generalize (ps[k]?.getD ([],[])).2.length = n2 at *
   go_wp2
   go_quiet ((first
    | (go_at_call_of 25 (Value.slice aL n1 cL);exact Calls.quiet_of (HS1.out _))
    | (go_at_call_of 25 (Value.slice aR n2 cR);exact Calls.quiet_of (HS2.out _))))
   go_wp2
   go_roundw
   case rel=>exact ⟨k+1,by omega,by go_num,below_drewN hBk _⟩
   case measure=>simp [intOf];omega
  ·obtain rfl:k = ps.length:=by omega
   go_wp2
   go_ret
   exact ⟨rfl,hBk⟩
end Go.Proofs.YtglohanbpjaieaaGreat
namespace Go.Proofs.YtglohanbpjaieaaGreat
open Go.Proofs Go.RowKit Go.Shelf Go.Maps
def Tm.GrowSays (rs:RuleL) (ps:PairL) (A B:List Int) (er:Int) (rs':RuleL) (ps':PairL):Prop :=
 (Tm.plErr A≠0∧er = Tm.plErr A∧rs' = []∧ps' = [])∨(Tm.plErr A = 0∧Tm.WithSays rs ps (Tm.plain A) (Tm.plain2 A B) er rs' ps')
theorem IntR.drop {base:Nat} {W:World} {b off:Nat} {zs:List Int} (h:IntR true base W (some ⟨b,off,none⟩) zs) (k:Nat):IntR true base W (some ⟨b,off+k,none⟩) (zs.drop k):=fun j hj=>by
 rw [List.length_drop] at hj
 obtain ⟨b',off',e,h1,h2,h3⟩:=h (k+j) (by omega)
 cases e
 exact ⟨b,off+k,rfl,h1,h2,by rw [List.getElem?_drop,show off+k+j = off+(k+j) from by omega];exact h3⟩
theorem IntR.take {base:Nat} {W:World} {a:Option Addr} {zs:List Int} (h:IntR true base W a zs) (k:Nat):IntR true base W a (zs.take k):=fun j hj=>by
 rw [List.length_take] at hj
 obtain ⟨b',off',e,h1,h2,h3⟩:=h j (by omega)
 exact ⟨b',off',e,h1,h2,by rw [List.getElem?_take_of_lt (by omega)];exact h3⟩
theorem NewX.lit (e:TypeId) (sb eb:Nat) (W:World) (h:sb≤W.heap.size):NewX true e sb eb (W.alloc (.cells #[] e)) (.slice (some ⟨W.heap.size,0,none⟩) 0 0) [] :=
 ⟨[],⟨rfl,.inr ⟨W.heap.size,0,#[],rfl,h,World.alloc_heap_new W _,Nat.le_refl _,by unfold maxLen;omega,rfl,rfl⟩⟩,fun j hj=>by simp at hj⟩
theorem NewQ.x {base eb:Nat} {W:World} {v:Value} {ps:PairL} (h:NewQ base W v ps):NewX true 40 base eb W v ps:=by
 obtain ⟨us,h1,h2⟩:=h
 refine ⟨us,h1,fun j hj=>?_⟩
 obtain ⟨aL,cL,aR,cR,q1,q2,i1,i2,r⟩:=h2 j hj
 have hI:∀ {a:Option Addr} {zs:List Int},IntRow base W a zs→IntR true eb W a zs:=fun h j hj=>by
  obtain ⟨b,off,e,_,⟨cs,p,hb⟩,hc⟩:=h j hj
  exact ⟨b,off,e,.inr ⟨.inl rfl,cs,p,hb⟩,(Array.getElem?_eq_some_iff.1 hb).1,hc⟩
 exact ⟨aL,cL,aR,cR,q1,q2,hI i1,hI i2,r⟩
theorem NewX.same {e:TypeId} {sb eb:Nat} {W V:World} {v:Value} {ps:PairL} (h:NewX true e sb eb W v ps) (hV:V.heap = W.heap):NewX true e sb eb V v ps:=h.keep (by rw [hV];exact Nat.le_refl _) (fun q _=>by rw [hV]) fun b _ _=>by rw [hV]
theorem IntR.same {base:Nat} {W V:World} {a:Option Addr} {zs:List Int} (h:IntR true base W a zs) (hV:V.heap = W.heap):IntR true base V a zs:=h.keep (by rw [hV];exact Nat.le_refl _) fun b _ _=>by rw [hV]
theorem Tm.waysTo_at (n:Nat):∀ j k,k < j→(Tm.waysTo n j)[2 * k]? = some (k,n)∧(Tm.waysTo n j)[2 * k+1]? = some (n,k):=by
 intro j
 induction j with
 | zero=>intro k hk;omega
 | succ j ih =>
  intro k hk
  have hl:=Tm.waysTo_len n j
  rw [Tm.waysTo_succ]
  by_cases e:k = j
  ·subst e
   rw [List.getElem?_append_right (by omega),List.getElem?_append_right (by omega),hl,Nat.sub_self,show 2 * k+1 - 2 * k = 1 by omega]
   exact ⟨rfl,rfl⟩
  ·rw [List.getElem?_append_left (by omega),List.getElem?_append_left (by omega)]
   exact ih k (by omega)
theorem Tm.ways_at {n k:Nat} (h:k≤n):(Tm.ways n)[2 * k]?.getD (0,0) = (k,n):=by
 have hl:=Tm.waysTo_len n n
 unfold Tm.ways
 by_cases e:k = n
 ·subst e
  rw [List.getElem?_append_right (by omega),hl,Nat.sub_self]
  rfl
 ·rw [List.getElem?_append_left (by omega),(Tm.waysTo_at n n k (by omega)).1]
  rfl
theorem Tm.ways_at1 {n k:Nat} (h:k < n):(Tm.ways n)[2 * k+1]?.getD (0,0) = (n,k):=by
 have hl:=Tm.waysTo_len n n
 unfold Tm.ways
 rw [List.getElem?_append_left (by omega),(Tm.waysTo_at n n k h).2]
 rfl
set_option maxRecDepth 100000 in
set_option maxHeartbeats 8000000 in
theorem refGrow_any (rk : List Int) (rs : RuleL) (ps : PairL) (A B : List Int) (al ae aA aB : Option Addr) (cl ce cA cB : Nat) (w : World) (hk : Tm.rankErr rk = 0) (hr : Tm.rulesErr rs = 0) (eA : Tm.err A = 0) (eB : Tm.err B = 0) (ha : Tm.aboveVal rk A B = true) (h40 : ps.length ≤ 40)
    (hL : RulesAt w.heap.size w al rs) (hP : RulesAt w.heap.size w ae ps) (hn : ae = none → ce = 0) (hA : Ints w.heap.size w aA A) (hB : Ints w.heap.size w aB B) :
    Calls Tryz.prog 65 #[.slice al rs.length cl, .slice ae ps.length ce, .slice aA A.length cA, .slice aB B.length cB] w fun e w' => ∃ er rs' ps' v u, Tm.GrowSays rs ps A B er rs' ps' ∧ e = .returned (.tuple #[v, u, .int .i64 er]) ∧ NewX true 54 w.heap.size w.heap.size w' v rs' ∧ NewX true 40 w.heap.size w.heap.size w' u ps' ∧ Below w.heap.size w w' := by
  have lA := Tm.err_len eA
  have lB := Tm.err_len eB
  have pA := Tm.err_pos eA
  have pB := Tm.err_pos eB
  have lA' : (A.length : Int) ≤ 30 := by omega
  have lB' : (B.length : Int) ≤ 30 := by omega
  obtain ⟨h8, hall⟩ := Tm.rulesErr_ok hr
  have h8' : (rs.length : Int) ≤ 8 := by omega
  obtain ⟨bA, oA, rfl⟩ : ∃ b o, aA = some ⟨b, o, none⟩ := by obtain ⟨x, y, e, _⟩ := hA.at pA; exact ⟨x, y, e⟩
  obtain ⟨bB, oB, rfl⟩ : ∃ b o, aB = some ⟨b, o, none⟩ := by obtain ⟨x, y, e, _⟩ := hB.at pB; exact ⟨x, y, e⟩
  obtain ⟨Z, hZ⟩ : ∃ Z, A ++ B = Z := ⟨_, rfl⟩
  have hZl : Z.length = A.length + B.length := by rw [← hZ, List.length_append]
  have hpl : Hid ((Tm.plain Z).length = A.length + B.length) := by
    show _ = _
    unfold Tm.plain
    rw [Tm.plainTo_length, hZl]
  have hboth : Hid (Tm.plain A ++ Tm.plain2 A B = Tm.plain Z) := by
    show _ = _
    rw [Sn.both, hZ]
    rfl
  have hpA : Hid ((Tm.plain A).length = A.length) := by show _ = _; unfold Tm.plain; exact Tm.plainTo_length _ _ _
  have hown := hid (Tm.own_plErr hk eA eB ha)
  have hrule := hid (fun h0 => Tm.plain_rule hk eA eB ha h0)
  rw [hboth.out] at hown
  have hV1 : Hid (Tm.plain A = (Tm.plain Z).take A.length) := by show _ = _; rw [← hboth.out, ← hpA.out, List.take_left]
  have hV2 : Hid (Tm.plain2 A B = (Tm.plain Z).drop A.length) := by show _ = _; rw [← hboth.out, ← hpA.out, List.drop_left]
  have hpln := hid (fun (V : World) (ad : Option Addr) (ct : Nat) h => refplain_long Z ad ct V (by omega) (by omega) (fun q hq => by
    rw [List.getElem?_eq_getElem hq]
    simp only [Option.getD_some]
    rcases List.mem_append.1 (by rw [hZ]; exact List.getElem_mem hq : Z[q] ∈ A ++ B) with h | h
    · exact (Tm.known_mem eA h).1
    · exact (Tm.known_mem eB h).1) h)
  have hl0 : Hid (New w.heap.size (w.alloc (.cells #[] 3)) (.slice (some ⟨w.heap.size, 0, none⟩) 0 0) []) := New.lit w.heap.size w [] (Nat.le_refl _) (by unfold maxLen; simp)
  have hA0 : Hid (Below w.heap.size w (w.alloc (.cells #[] 3))) := (Below.refl _ _).alloc (Nat.le_refl _) _
  have HZ := hid hZ
  have HA := hid hA
  have HB := hid hB
  have HL := hid hL
  have HP := hid hP
  have Hall := hid hall
  clear hZ hA hB hL hP hall hZl ha hk hr
  go_enter Tryz.func65, Tryz.ntmps65
  go_wp2_with (first
    | (at_builtin; refine wp_append_ints _ rfl _ _ rfl w.heap.size _ [] rfl hl0.out _ A _ rfl (fun e => by cases e) ((HA.out.below hA0.out).mono hA0.out.size) (by simp; omega) hA0.out.size ?_; intro v9 w9 n9 b9; obtain ⟨x9, k9, rfl, _⟩ := New.ints n9; have hA9 := hid (hA0.out.trans b9); rw [List.nil_append] at n9)
    | (at_builtin; refine wp_append_ints _ rfl _ _ rfl w.heap.size _ A rfl n9 _ B _ rfl (fun e => by cases e) ((HB.out.below hA9.out).mono hA9.out.size) (by omega) hA9.out.size ?_; intro v10 w10 n10 b10; rw [HZ.out] at n10; obtain ⟨x10, k10, rfl, i10, _⟩ := New.ints n10; have hA10 := hid (hA9.out.trans b10))
    | (go_at_call 95; refine (hpln.out _ _ _ i10).mono ?_; rintro e w11 ⟨v11, rfl, n11, b11⟩; have hA11 := hid (hA10.out.trans (b11.mono hA10.out.size)))
    | (go_at_call 40; fail))
  obtain ⟨x11, k11, rfl, hir, hk1, hk2⟩ := IntR.new (fl := true) (base := w.heap.size) n11 (.inl rfl)
  obtain ⟨g11, k11', e11, _, _⟩ := New.at0 n11 (by have := hpl.out; omega)
  cases e11
  have hO := hid (refOwn_any (Tm.plain Z) (some ⟨g11, 0, none⟩) k11 w11 hir.ints (by omega))
  have hir' := hid hir
  clear hpln hl0 hA0 HA HB hA9 hA10 n9 n10 n11 i10 b9 b10 b11 hir
  cases hf : (Tm.plain Z).any foreignB with
  | true =>
    rw [hf, if_pos rfl] at hown
    rw [hf] at hO
    have hs : Hid (Tm.GrowSays rs ps A B 3 [] []) := .inl ⟨by rw [hown.out]; decide, hown.out.symm, rfl, rfl⟩
    clear hf hown hrule
    generalize Tm.plain Z = PZ at *
    refine hO.out.mono ?_
    rintro e w11 ⟨rfl, rfl⟩
    go_wp2
    go_ret3
    exact ⟨3, [], [], _, _, hs.out, rfl, NewX.nil _ _ _ _, NewX.nil _ _ _ _, hA11.out⟩
  | false =>
    rw [hf, if_neg (by decide)] at hown
    rw [hf] at hO
    have hr1 := hid (hrule.out hown.out)
    have hSay : Hid (∀ er rs' ps', Tm.WithSays rs ps (Tm.plain A) (Tm.plain2 A B) er rs' ps' → Tm.GrowSays rs ps A B er rs' ps') := fun er rs' ps' h => .inr ⟨hown.out, h⟩
    rw [hV1.out, hV2.out] at hSay hr1
    clear hf hown hrule hV1 hV2 hboth hpA
    generalize Tm.plain Z = PZ at *
    have hk1' : (PZ.length : Int) ≤ (k11 : Int) := by omega
    have hPZ : (PZ.length : Int) = (A.length : Int) + (B.length : Int) := by have := hpl.out; omega
    have hXP : (A.length : Int) ≤ (PZ.length : Int) := by omega
    have hXk : (A.length : Int) ≤ (k11 : Int) := by omega
    have hkz : ¬ k11 - A.length = 0 := by omega
    have hkz2 : ¬ k11 = A.length := by omega
    have hdl : Hid (PZ.length - A.length = (PZ.drop A.length).length) := (List.length_drop).symm
    have htl : Hid (A.length = (PZ.take A.length).length) := by show _ = _; rw [List.length_take]; omega
    have HPZ := hid hPZ
    clear hPZ
    have hkm : k11 ≤ 9223372036854775807 := hk2
    have hkm' : (k11 : Int) ≤ 9223372036854775807 := by omega
    refine hO.out.mono ?_
    rintro e w11 ⟨rfl, rfl⟩
    clear hO
    go_wp2
    go_region_held3 (fun _ => True) (first | trivial) (fail)
    obtain ⟨W12, hW12⟩ : ∃ W12, (w11.alloc (.cells #[.slice (some ⟨g11, 0, none⟩) A.length A.length, .slice (some ⟨g11, A.length, none⟩) (PZ.length - A.length) (k11 - A.length)] 54)).drew = W12 := ⟨_, rfl⟩
    rw [hW12]
    obtain ⟨L, hLe⟩ : ∃ L, PZ.take A.length = L := ⟨_, rfl⟩
    obtain ⟨R, hRe⟩ : ∃ R, PZ.drop A.length = R := ⟨_, rfl⟩
    have iL0 := hir'.out.take A.length
    have iR0 := hir'.out.drop A.length
    rw [Nat.zero_add] at iR0
    rw [hLe] at hSay hr1 htl iL0
    rw [hRe] at hSay hr1 hdl iR0
    have hBa : Below w11.heap.size w11 W12 := by rw [← hW12]; exact below_drewN ((Below.refl _ _).alloc (Nat.le_refl _) _) 1
    have bx : Box2 W12 w11.heap.size 54 (.slice (some ⟨g11, 0, none⟩) L.length A.length) (.slice (some ⟨g11, A.length, none⟩) R.length (k11 - A.length)) := by
      rw [← hW12, ← htl.out, ← hdl.out]
      exact Box2.new w11 _ _ _
    have B12 := hA11.out.trans (hBa.mono hA11.out.size)
    obtain ⟨n, hn11⟩ : ∃ n, n = w11.heap.size := ⟨_, rfl⟩
    have hbn : w.heap.size ≤ n := by rw [hn11]; exact hA11.out.size
    have hn12 : n < W12.heap.size := by rw [hn11]; exact bx.lt
    rw [← hn11] at bx ⊢
    have I12 : Hid (WiInv true w.heap.size n w (.slice none 0 0) [] (some ⟨g11, 0, none⟩) (some ⟨g11, A.length, none⟩) A.length (k11 - A.length) L R (.slice (some ⟨W12.heap.size, 0, none⟩) 0 0) (.slice none 0 0) [] [] (W12.alloc (.cells #[] 40))) := by
      have hAl : Below W12.heap.size W12 (W12.alloc (.cells #[] 40)) := (Below.refl _ _).alloc (Nat.le_refl _) _
      exact ⟨NewX.lit _ _ _ _ B12.size, NewX.nil _ _ _ _, NewX.nil _ _ _ _, bx.alloc _, (iL0.below hBa).below hAl, (iR0.below hBa).below hAl, B12.trans (hAl.mono B12.size)⟩
    have hP13 : Hid (RulesAt w.heap.size (W12.alloc (.cells #[] 40)) ae ps) := HP.out.below I12.out.kp
    have cL1 : Hid (L.length ≤ A.length) := by show _ ≤ _; have := htl.out; omega
    have cR1 : Hid (R.length ≤ k11 - A.length) := by show _ ≤ _; have := hdl.out; omega
    have pL : Hid (0 < L.length) := by show _ < _; have := htl.out; omega
    have eLR := hid (Tm.ruleErr_ok hr1.out.1)
    have hcm : A.length ≤ maxLen := by unfold maxLen; omega
    have hcm2 : k11 - A.length ≤ maxLen := by unfold maxLen; omega
    clear hW12 hLe hRe htl hdl hir' iL0 iR0 hBa bx B12 hn11 hA11 HPZ hpl hk1 hk1' hXP hXk hkz hkz2 hkm hkm' hk2 HZ
    go_wp2_with (at_builtin; go_loud (refine wp_olds_p _ rfl _ _ rfl w.heap.size w.heap.size (Nat.le_refl _) _ [] rfl I12.out.ne ae ce ps rfl hn hP13.out I12.out.kp.size (by simp; omega) I12.out.kp.size ?_); intro v14 w14 hN14 hg14 hB14; have I14 := hid (I12.out.pair hg14 hB14 hN14); obtain ⟨a14, c14, rfl⟩ := hN14.slice; clear hN14 hg14 hB14 I12)
    go_loopw [13, 14, 15] (fun xs xe v wr => ∃ k : Nat, k ≤ rs.length ∧ v = .int .i64 (k : Int) ∧ Hid (WiInv true w.heap.size n w (.slice none 0 0) [] (some ⟨g11, 0, none⟩) (some ⟨g11, A.length, none⟩) A.length (k11 - A.length) L R xe xs (ps ++ Tm.taken L (rs.take k)) (Tm.stays L (rs.take k)) wr)) (fun _ _ v _ => rs.length - (intOf v).toNat)
    case atStart => exact ⟨0, Nat.zero_le _, rfl, by simpa [Tm.taken, Tm.stays] using I14⟩
    case round =>
      obtain ⟨k, hk, rfl, hI⟩ := hrel
      obtain ⟨ya, yc, rfl⟩ := hI.out.ne.slice
      obtain ⟨za, zc, rfl⟩ := hI.out.ns.slice
      clear I14
      by_cases hlt : k < rs.length
      · have hlt' : (k : Int) < (rs.length : Int) := by omega
        obtain ⟨bq, off, rfl, hbq, aP, cP, aQ, cQ, g1, g2, g3, g4, g5, g6, g7, g8⟩ := (HL.out.below hI.out.kp) k hlt
        have eP := (Tm.ruleErr_ok (Hall.out k hlt)).1
        have hs1 := hid (Tm.stays_snoc (L := L) hlt)
        have hs2 := hid (show ps ++ Tm.taken L (rs.take (k + 1)) = (ps ++ Tm.taken L (rs.take k)) ++ (if Tm.takenB L ((rs[k]?.getD ([], [])).1, (rs[k]?.getD ([], [])).2) = true then [((rs[k]?.getD ([], [])).1, (rs[k]?.getD ([], [])).2)] else []) by rw [Tm.taken_snoc (L := L) hlt, List.append_assoc])
        have hl1 : (ps ++ Tm.taken L (rs.take k)).length ≤ 48 := by have := Tm.taken_le L (rs.take k); rw [List.length_append]; rw [List.length_take] at this; omega
        have hl2 : (Tm.stays L (rs.take k)).length ≤ 8 := by have := Tm.stays_le L (rs.take k); rw [List.length_take] at this; omega
        have hov : Hid (Tm.takenB L ((rs[k]?.getD ([], [])).1, (rs[k]?.getD ([], [])).2) = decide (0 < (Tm.overVal (rs[k]?.getD ([], [])).1 L).length)) := rfl
        generalize (rs[k]?.getD ([], [])).1 = P at *
        generalize (rs[k]?.getD ([], [])).2 = Q at *
        generalize ps ++ Tm.taken L (rs.take k) = pt at *
        generalize Tm.stays L (rs.take k) = sk at *
        generalize Tm.takenB L (P, Q) = tb at *
        have y1 := hI.out.bx.cell0
        have hnw : n < wr.heap.size := hI.out.bx.lt
        have hsw : w.heap.size ≤ wr.heap.size := hI.out.kp.size
        have hBW := Below.refl wr.heap.size wr
        have hS0 : wr.cell? ⟨bq, off + k * 2, none⟩ = some (.slice aP P.length cP) ∧ wr.cell? ⟨n, 0, none⟩ = some (.slice (some ⟨g11, 0, none⟩) L.length A.length) := ⟨g1, y1⟩
        have hSS := hid (fun V (hV : Below wr.heap.size wr V) => (⟨(hV.cell (p := ⟨bq, off + k * 2, none⟩) (by show bq < _; omega)).trans g1, (hV.cell (p := ⟨n, 0, none⟩) hnw).trans y1⟩ : V.cell? ⟨bq, off + k * 2, none⟩ = some (.slice aP P.length cP) ∧ V.cell? ⟨n, 0, none⟩ = some (.slice (some ⟨g11, 0, none⟩) L.length A.length)))
        have hSR := hid (fun V (hV : Below wr.heap.size wr V) => (show V.cell? ⟨bq, off + k * 2, none⟩ = some (.slice aP P.length cP) ∧ V.cell? ⟨bq, off + k * 2 + 1, none⟩ = some (.slice aQ Q.length cQ) from ⟨(hV.cell (p := ⟨bq, off + k * 2, none⟩) (by show bq < _; omega)).trans g1, (hV.cell (p := ⟨bq, off + k * 2 + 1, none⟩) (by show bq < _; omega)).trans g2⟩))
        have hC := hid (fun V (hV : Below wr.heap.size wr V) => (overOf_any P L aP (some ⟨g11, 0, none⟩) cP A.length V ((g3.mono hsw).below hV |>.mono hV.size) ((hI.out.iL.ints.below hV).mono hV.size) ⟨g5, g6⟩ ⟨cL1.out, hcm⟩).mono (fun e w' ⟨v, p1, p2, p3⟩ => (⟨v, p1, p2, hV.trans (p3.mono hV.size)⟩ : ∃ v, e = Ending.returned (.tuple #[v, .int .i64 (Tm.fitErr P L)]) ∧ New V.heap.size w' v (Tm.overVal P L) ∧ Below wr.heap.size wr w')))
        have iP := hid (fun V (hV : Below wr.heap.size wr V) => (show IntR true w.heap.size V aP P from IntR.old g3 (Nat.le_trans hsw hV.size) (hV.mono hsw)))
        have iQ := hid (fun V (hV : Below wr.heap.size wr V) => (show IntR true w.heap.size V aQ Q from IntR.old g4 (Nat.le_trans hsw hV.size) (hV.mono hsw)))
        generalize Tm.overVal P L = ov at *
        generalize Tm.fitErr P L = fe at *
        clear g1 g2 g3 g4 y1
        go_wp2
        go_region_held3 (fun w' => w'.cell? ⟨bq, off + k * 2, none⟩ = some (.slice aP P.length cP) ∧ w'.cell? ⟨n, 0, none⟩ = some (.slice (some ⟨g11, 0, none⟩) L.length A.length)) (first | assumption | exact hS0)
          ((go_at_call 96; refine (hC.out _ (by first | exact hBW | exact below_drewN hBW 1)).mono ?_; rintro e w3 ⟨v3, rfl, hN3, b3⟩; obtain ⟨x3, d3, rfl, _⟩ := New.ints hN3; have s3 := hSS.out _ b3))
        have I3 := hid (hI.out.below (Nat.le_refl _) b3)
        have hR3 := hSR.out _ b3
        have hov0 : Hid (ov.length = ov.length) := rfl
        have hnw3 : n < w3.heap.size := I3.out.bx.lt
        have hsw3 : w.heap.size ≤ w3.heap.size := I3.out.kp.size
        clear hC hN3 s3 hS0 hSS hBW hI
        by_cases htk : 0 < ov.length
        · have htk' : (0 : Int) < (ov.length : Int) := by omega
          have htb : Hid (tb = true) := by show tb = true; rw [hov.out]; exact decide_eq_true htk
          rw [htb.out, if_pos rfl] at hs1 hs2
          rw [List.append_nil] at hs1
          have hN4 : Hid (∀ V : World, V.heap = (w3.alloc (.cells #[.slice aP P.length cP, .slice aQ Q.length cQ] 40)).heap → NewX true 40 w.heap.size w.heap.size V (.slice ya pt.length yc) pt) := fun V hV => (I3.out.ne.below ((Below.refl w3.heap.size w3).alloc (Nat.le_refl _) _)).same hV
          have hblk0 : Hid (∀ V : World, V.heap = (w3.alloc (.cells #[.slice aP P.length cP, .slice aQ Q.length cQ] 40)).heap → V.cell? ⟨w3.heap.size, 0, none⟩ = some (.slice aP P.length cP)) := fun V hV => (cell_at (show V.heap[w3.heap.size]? = _ by rw [hV]; exact World.alloc_heap_new w3 _) 0).trans rfl
          have hblk1 : Hid (∀ V : World, V.heap = (w3.alloc (.cells #[.slice aP P.length cP, .slice aQ Q.length cQ] 40)).heap → V.cell? ⟨w3.heap.size, 1, none⟩ = some (.slice aQ Q.length cQ)) := fun V hV => (cell_at (show V.heap[w3.heap.size]? = _ by rw [hV]; exact World.alloc_heap_new w3 _) 1).trans rfl
          have hA3 : Below wr.heap.size wr (w3.alloc (.cells #[.slice aP P.length cP, .slice aQ Q.length cQ] 40)) := b3.alloc b3.size _
          have hi4 : Hid (∀ V : World, V.heap = (w3.alloc (.cells #[.slice aP P.length cP, .slice aQ Q.length cQ] 40)).heap → IntR true w.heap.size V aP P ∧ IntR true w.heap.size V aQ Q) := fun V hV => ⟨(iP.out _ hA3).same hV, (iQ.out _ hA3).same hV⟩
          have hS4 := hid (fun (V : World) (hV : V.heap = (w3.alloc (.cells #[.slice aP P.length cP, .slice aQ Q.length cQ] 40)).heap) => (show V.cell? ⟨bq, off + k * 2, none⟩ = some (.slice aP P.length cP) ∧ V.cell? ⟨bq, off + k * 2 + 1, none⟩ = some (.slice aQ Q.length cQ) from ⟨(World.cell?_of_block (a := ⟨bq, off + k * 2, none⟩) (by rw [hV])).trans (hSR.out _ hA3).1, (World.cell?_of_block (a := ⟨bq, off + k * 2 + 1, none⟩) (by rw [hV])).trans (hSR.out _ hA3).2⟩))
          have hS5 : Hid (∀ (V V' : World), V.heap = (w3.alloc (.cells #[.slice aP P.length cP, .slice aQ Q.length cQ] 40)).heap → Below w.heap.size V V' → V'.cell? ⟨bq, off + k * 2, none⟩ = some (.slice aP P.length cP) ∧ V'.cell? ⟨bq, off + k * 2 + 1, none⟩ = some (.slice aQ Q.length cQ)) := fun V V' hV hB => ⟨(hB.cell (p := ⟨bq, off + k * 2, none⟩) hbq).trans (hS4.out V hV).1, (hB.cell (p := ⟨bq, off + k * 2 + 1, none⟩) hbq).trans (hS4.out V hV).2⟩
          clear htk
          go_wp2
          go_region_held3 (fun w' => w'.cell? ⟨bq, off + k * 2, none⟩ = some (.slice aP P.length cP) ∧ w'.cell? ⟨bq, off + k * 2 + 1, none⟩ = some (.slice aQ Q.length cQ)) (first | assumption | exact hR3 | exact hS4.out _ (by rfl))
            ((refine step_app_p _ (by rfl) _ _ (by rfl) w.heap.size w.heap.size (Nat.le_refl _) (.slice ya pt.length yc) pt (by rfl) (hN4.out _ (by rfl)) w3.heap.size aP aQ P Q cP cQ (by rfl) (hblk0.out _ (by rfl)) (hblk1.out _ (by rfl)) (hi4.out _ (by rfl)).1 (hi4.out _ (by rfl)).2 g5 g6 g7 g8 (by omega) (by simp; omega) ?_; intro gg cc w5 hN5 hg5 hB5; have s5 := hS5.out _ _ (by rfl) hB5))
          all_goals (
            have I5 := hid ((I3.out.below (Nat.le_refl _) (below_drewN ((Below.refl w3.heap.size w3).alloc (Nat.le_refl _) (.cells #[.slice aP P.length cP, .slice aQ Q.length cQ] 40)) 1)).pair hg5 hB5 hN5)
            clear s5 hN5 hg5 hB5 hN4 hblk0 hblk1 hi4 hS4 hS5 I3
            go_wp2
            go_roundw
            case rel => exact ⟨k + 1, by omega, by go_num, by rw [hs1.out, hs2.out]; simpa [Hid] using I5⟩
            case measure => simp [intOf]; omega)
        · have htk' : ¬ (0 : Int) < (ov.length : Int) := by omega
          have htb : Hid (tb = false) := by show tb = false; rw [hov.out]; exact decide_eq_false htk
          rw [htb.out, if_neg (by simp)] at hs1 hs2
          rw [List.append_nil] at hs2
          obtain ⟨t0, t1⟩ := hR3
          have hA := (Below.refl w3.heap.size w3).alloc (Nat.le_refl _) (.cells #[.slice aP P.length cP, .slice aQ Q.length cQ] 54)
          have I4 := hid (I3.out.below (Nat.le_refl _) hA)
          have blk := World.alloc_heap_new w3 (.cells #[.slice aP P.length cP, .slice aQ Q.length cQ] 54)
          have HB0 := hid ((cell_at blk 0).trans rfl : (w3.alloc (.cells #[.slice aP P.length cP, .slice aQ Q.length cQ] 54)).cell? ⟨w3.heap.size, 0, none⟩ = some (.slice aP P.length cP))
          have HB1 := hid ((cell_at blk 1).trans rfl : (w3.alloc (.cells #[.slice aP P.length cP, .slice aQ Q.length cQ] 54)).cell? ⟨w3.heap.size, 1, none⟩ = some (.slice aQ Q.length cQ))
          have hA3 := b3.trans (hA.mono b3.size)
          have iP4 := hid (iP.out _ hA3)
          have iQ4 := hid (iQ.out _ hA3)
          clear htk blk hA hA3
          go_wp2_with (at_builtin; go_loud (refine wp_app_r _ rfl _ _ rfl (n + 1) w.heap.size (by omega) _ sk rfl I4.out.ns w3.heap.size aP aQ P Q cP cQ rfl HB0.out HB1.out iP4.out iQ4.out g5 g6 g7 g8 (by omega) (by simp; omega) ?_); intro g5' c5' w5 hN5 hg5 hB5)
          have I5 := hid (I4.out.rule hbn (fun k hk => by cases hk) hg5 hB5 hN5)
          clear hN5 hg5 hB5 I4 I3
          go_roundw
          case rel => exact ⟨k + 1, by omega, by go_num, by rw [hs1.out, hs2.out]; simpa [Hid] using I5⟩
          case measure => simp [intOf]; omega
      · obtain rfl : k = rs.length := by omega
        rw [List.take_length] at hI
        have hS : Hid (∀ er rs' ps', ((8 < (Tm.stays L rs).length + 1 ∧ er = 2 ∧ rs' = [] ∧ ps' = []) ∨
  ((Tm.stays L rs).length + 1 ≤ 8 ∧ ∃ e q, Tm.LastSays (Tm.stays L rs ++ [(L, R)]) (Tm.ways (Tm.stays L rs).length) e q ∧
    ((e ≠ 0 ∧ er = e ∧ rs' = [] ∧ ps' = []) ∨ (e = 0 ∧ 40 < (ps ++ Tm.taken L rs ++ q).length ∧ er = 2 ∧ rs' = [] ∧ ps' = []) ∨ (e = 0 ∧ (ps ++ Tm.taken L rs ++ q).length ≤ 40 ∧ er = 0 ∧ rs' = Tm.stays L rs ++ [(L, R)] ∧ ps' = ps ++ Tm.taken L rs ++ q)))) → Tm.GrowSays rs ps A B er rs' ps') := fun er rs' ps' h => hSay.out er rs' ps' h
        have hl1 : (ps ++ Tm.taken L rs).length ≤ 48 := by have := Tm.taken_le L rs; rw [List.length_append]; omega
        have hl2 : (Tm.stays L rs).length ≤ 8 := by have := Tm.stays_le L rs; omega
        have hrs : Hid ((Tm.stays L rs).length + 1 ≤ 8 → Tm.rulesErr (Tm.stays L rs ++ [(L, R)]) = 0) := fun h => by
          unfold Tm.rulesErr
          rw [if_neg (by rw [List.length_append]; simp; omega)]
          refine Tm.firstRule_of fun x hx => ?_
          rcases List.mem_append.1 hx with hx | hx
          · obtain ⟨j, hj, rfl⟩ := List.getElem_of_mem (List.mem_filter.1 hx).1
            have := Hall.out j hj
            rwa [List.getElem?_eq_getElem hj] at this
          · simp only [List.mem_cons, List.not_mem_nil, or_false] at hx
            subst hx
            exact hr1.out.1
        rw [List.take_length]
        generalize ps ++ Tm.taken L rs = pt at *
        generalize Tm.stays L rs = sk at *
        have y0 := hI.out.bx.cell0
        have y1 := hI.out.bx.cell1
        have hnw : n < wr.heap.size := hI.out.bx.lt
        have hsw : w.heap.size ≤ wr.heap.size := hI.out.kp.size
        have hA := (Below.refl wr.heap.size wr).alloc (Nat.le_refl _) (.cells #[.slice (some ⟨g11, 0, none⟩) L.length A.length, .slice (some ⟨g11, A.length, none⟩) R.length (k11 - A.length)] 54)
        have I4 := hid (hI.out.below (Nat.le_refl _) hA)
        have blk := World.alloc_heap_new wr (.cells #[.slice (some ⟨g11, 0, none⟩) L.length A.length, .slice (some ⟨g11, A.length, none⟩) R.length (k11 - A.length)] 54)
        have HB0 := hid ((cell_at blk 0).trans rfl : (wr.alloc (.cells #[.slice (some ⟨g11, 0, none⟩) L.length A.length, .slice (some ⟨g11, A.length, none⟩) R.length (k11 - A.length)] 54)).cell? ⟨wr.heap.size, 0, none⟩ = some (.slice (some ⟨g11, 0, none⟩) L.length A.length))
        have HB1 := hid ((cell_at blk 1).trans rfl : (wr.alloc (.cells #[.slice (some ⟨g11, 0, none⟩) L.length A.length, .slice (some ⟨g11, A.length, none⟩) R.length (k11 - A.length)] 54)).cell? ⟨wr.heap.size, 1, none⟩ = some (.slice (some ⟨g11, A.length, none⟩) R.length (k11 - A.length)))
        clear blk hA hI
        by_cases h9 : 8 < sk.length + 1
        · have h9' : (8 : Int) < (sk.length : Int) + 1 := by omega
          go_wp2_with (at_builtin; go_loud (refine wp_app_r _ rfl _ _ rfl (n + 1) w.heap.size (by omega) _ sk rfl I4.out.ns wr.heap.size (some ⟨g11, 0, none⟩) (some ⟨g11, A.length, none⟩) L R A.length (k11 - A.length) rfl HB0.out HB1.out I4.out.iL I4.out.iR cL1.out hcm cR1.out hcm2 (by omega) (by simp; omega) ?_); intro g5' c5' w5 hN5 hg5 hB5)
          have I5 := hid (I4.out.rule hbn (fun k hk => by cases hk) hg5 hB5 hN5)
          go_ret3
          exact ⟨2, [], [], _, _, hS.out _ _ _ (.inl ⟨h9, rfl, rfl, rfl⟩), rfl, NewX.nil _ _ _ _, NewX.nil _ _ _ _, I5.out.kp⟩
        · have h9' : ¬ (8 : Int) < (sk.length : Int) + 1 := by omega
          have hre := hid (hrs.out (by omega))
          have hsk : (sk.length : Int) ≤ 7 := by omega
          go_wp2_with (at_builtin; go_loud (refine wp_app_r _ rfl _ _ rfl (n + 1) w.heap.size (by omega) _ sk rfl I4.out.ns wr.heap.size (some ⟨g11, 0, none⟩) (some ⟨g11, A.length, none⟩) L R A.length (k11 - A.length) rfl HB0.out HB1.out I4.out.iL I4.out.iR cL1.out hcm cR1.out hcm2 (by omega) (by simp; omega) ?_); intro g5' c5' w5 hN5 hg5 hB5; have I5 := hid (I4.out.rule hbn (fun k hk => by cases hk) hg5 hB5 hN5); clear hN5 hg5 hB5)
          have hlr : Hid ((sk ++ [(L, R)]).length = sk.length + 1) := by show _ = _; simp
          have hwl := hid (Tm.ways_len sk.length)
          go_loopw [14, 19] (fun xe v X => ∃ (m : Nat) (l : PairL), m ≤ sk.length ∧ v = .int .i64 (m : Int) ∧ (∃ oa oc, xe = .slice oa (pt ++ l).length oc) ∧ Hid (Tm.LastTo (sk ++ [(L, R)]) (Tm.ways sk.length) (2 * m) l) ∧ Hid (WiInv true w.heap.size n w (.slice none 0 0) [] (some ⟨g11, 0, none⟩) (some ⟨g11, A.length, none⟩) A.length (k11 - A.length) L R xe (.slice (some ⟨g5', 0, none⟩) (sk.length + 1) c5') (pt ++ l) (sk ++ [(L, R)]) X)) (fun _ v _ => sk.length + 1 - (intOf v).toNat)
          case atStart => exact ⟨0, [], Nat.zero_le _, rfl, ⟨ya, yc, by rw [List.append_nil]⟩, Tm.LastTo.zero _ _, by simpa [Hid] using I5⟩
          case round =>
            obtain ⟨X, rfl⟩ : ∃ X, X = wr := ⟨wr, rfl⟩
            obtain ⟨m, l, hm, rfl, ⟨ea, ec, rfl⟩, hto, hI⟩ := hrel
            clear I5 y0 y1 HB0 HB1 I4
            have hlen := hto.out.len
            have hm' : (m : Int) ≤ (sk.length : Int) := by omega
            have hsk0 : (0 : Int) ≤ (sk.length : Int) := by omega
            obtain ⟨a6, c6, e6, hR6, _⟩ := hI.out.ns.at
            rw [hlr.out] at e6
            cases e6
            have hof := hid (fun V (hV : Below X.heap.size X V) (i j : Nat) (hi : i ≤ sk.length) (hj : j ≤ sk.length) => refof_idx (sk ++ [(L, R)]) i j (by rw [hlr.out]; omega) (by rw [hlr.out]; omega) (some ⟨g5', 0, none⟩) c5' V hre.out ((hR6.below hV).mono hV.size))
            rw [hlr.out] at hof
            have hnx := hid (fun qs (hs : Tm.OfSays (sk ++ [(L, R)]) (m : Int) (sk.length : Int) 0 qs) => hto.out.next (ps := qs) (by rw [Tm.ways_at hm]; exact hs))
            have hst : Hid (∀ er qs, er ≠ 0 → Tm.OfSays (sk ++ [(L, R)]) (m : Int) (sk.length : Int) er qs → Tm.LastSays (sk ++ [(L, R)]) (Tm.ways sk.length) er []) := fun er qs he hs => .inr ⟨he, rfl, 2 * m, qs, by have := hwl.out; omega, ⟨l, hto.out⟩, by rw [Tm.ways_at hm]; exact hs⟩
            have hst2 : Hid (∀ er qs l', m < sk.length → er ≠ 0 → Tm.LastTo (sk ++ [(L, R)]) (Tm.ways sk.length) (2 * m + 1) l' → Tm.OfSays (sk ++ [(L, R)]) (sk.length : Int) (m : Int) er qs → Tm.LastSays (sk ++ [(L, R)]) (Tm.ways sk.length) er []) := fun er qs l' h he hl hs => .inr ⟨he, rfl, 2 * m + 1, qs, by have := hwl.out; omega, ⟨l', hl⟩, by rw [Tm.ways_at1 h]; exact hs⟩
            have hX0 := hid (Below.refl X.heap.size X)
            clear hto hR6
            by_cases hmn : m = sk.length
            · have hmn' : ((m : Int) == (sk.length : Int)) = true := by simp [hmn]
              have Hmn := hid hmn
              clear hmn
              go_wp2_with fail
              refine (hof.out X hX0.out m sk.length hm (Nat.le_refl _)).mono ?_
              rintro e w6 ⟨b6, er, qs, v6, hs6, rfl, hN6⟩
              obtain ⟨a7, c7, rfl, _⟩ := hN6.at
              have I6 := hid (hI.out.below (Nat.le_refl _) b6)
              have M6 := hid (NewQ.x (eb := w.heap.size) hN6)
              have hs6w : w.heap.size ≤ w6.heap.size := I6.out.kp.size
              clear hN6 hI hof
              by_cases he : er = 0
              · subst he
                have hql := hs6.len.2
                have hLs : Hid (Tm.LastSays (sk ++ [(L, R)]) (Tm.ways sk.length) 0 (l ++ qs)) := by
                  have h := hnx.out qs hs6
                  rw [Hmn.out, ← hwl.out] at h
                  exact .inl ⟨rfl, h⟩
                clear hs6 hnx hst hst2
                by_cases h41 : 40 < (pt ++ (l ++ qs)).length
                · have h41' : (40 : Int) < (pt.length : Int) + (l.length : Int) + (qs.length : Int) := by rw [List.length_append, List.length_append] at h41; omega
                  have Hs := hid (hS.out 2 [] [] (.inr ⟨by omega, 0, l ++ qs, hLs.out, .inr (.inl ⟨rfl, h41, rfl, rfl, rfl⟩)⟩))
                  clear h41 hS hLs
                  rw [List.length_append]
                  go_wp2_with (at_builtin; go_loud (refine wp_apps_p _ rfl _ _ rfl w.heap.size w.heap.size (Nat.le_refl _) (.slice ea (pt.length + l.length) ec) (pt ++ l) rfl (by rw [← List.length_append]; exact I6.out.ne) _ qs rfl X.heap.size M6.out (by rw [List.length_append]; omega) hs6w ?_); intro v8 w8 hN8 hg8 hB8; obtain ⟨a8, c8, e8⟩ := hN8.slice; rw [List.length_append, List.length_append] at e8; subst e8)
                  go_ret3
                  exact ⟨2, [], [], _, _, Hs.out, rfl, NewX.nil _ _ _ _, NewX.nil _ _ _ _, I6.out.kp.trans hB8⟩
                · have h41' : ¬ (40 : Int) < (pt.length : Int) + (l.length : Int) + (qs.length : Int) := by rw [List.length_append, List.length_append] at h41; omega
                  have Hs := hid (hS.out 0 (sk ++ [(L, R)]) (pt ++ (l ++ qs)) (.inr ⟨by omega, 0, l ++ qs, hLs.out, .inr (.inr ⟨rfl, by omega, rfl, rfl, rfl⟩)⟩))
                  clear h41 hS hLs
                  rw [List.length_append]
                  go_wp2_with (at_builtin; go_loud (refine wp_apps_p _ rfl _ _ rfl w.heap.size w.heap.size (Nat.le_refl _) (.slice ea (pt.length + l.length) ec) (pt ++ l) rfl (by rw [← List.length_append]; exact I6.out.ne) _ qs rfl X.heap.size M6.out (by rw [List.length_append]; omega) hs6w ?_); intro v8 w8 hN8 hg8 hB8; have I8 := hid (I6.out.pair (by rw [List.length_append]; exact hg8) hB8 hN8); obtain ⟨a8, c8, e8⟩ := hN8.slice; rw [List.length_append, List.length_append] at e8; subst e8; clear hN8 hg8 hB8)
                  go_ret3
                  exact ⟨0, _, _, _, _, Hs.out, rfl, I8.out.ns.mono (by omega), (by rw [← List.append_assoc]; exact I8.out.ne), I8.out.kp⟩
              · have hne : (er != 0) = true := by simpa using he
                have Hs := hid (hS.out er [] [] (.inr ⟨by omega, er, [], hst.out er qs he hs6, .inl ⟨he, rfl, rfl, rfl⟩⟩))
                clear he hS hs6 hnx hst hst2
                go_wp2
                go_ret3
                exact ⟨er, [], [], _, _, Hs.out, rfl, NewX.nil _ _ _ _, NewX.nil _ _ _ _, I6.out.kp⟩
            · have hmn' : ((m : Int) == (sk.length : Int)) = false := by rw [beq_eq_false_iff_ne]; omega
              have hmlt : m < sk.length := by omega
              clear hmn
              go_wp2_with fail
              refine (hof.out X hX0.out m sk.length hm (Nat.le_refl _)).mono ?_
              rintro e w6 ⟨b6, er, qs, v6, hs6, rfl, hN6⟩
              obtain ⟨a7, c7, rfl, _⟩ := hN6.at
              have I6 := hid (hI.out.below (Nat.le_refl _) b6)
              have M6 := hid (NewQ.x (eb := w.heap.size) hN6)
              have hs6w : w.heap.size ≤ w6.heap.size := I6.out.kp.size
              clear hN6 hI hof
              by_cases he : er = 0
              · subst he
                have hql := hs6.len.2
                have hT1 := hid (hnx.out qs hs6)
                clear hs6 hnx hst
                rw [List.length_append]
                go_wp2_with (first
                  | (at_builtin; go_loud (refine wp_apps_p _ rfl _ _ rfl w.heap.size w.heap.size (Nat.le_refl _) (.slice ea (pt.length + l.length) ec) (pt ++ l) rfl (by rw [← List.length_append]; exact I6.out.ne) _ qs rfl X.heap.size M6.out (by rw [List.length_append]; omega) hs6w ?_); intro v8 w8 hN8 hg8 hB8; have I8 := hid (I6.out.pair (by rw [List.length_append]; exact hg8) hB8 hN8); obtain ⟨a8, c8, e8⟩ := hN8.slice; rw [List.length_append, List.length_append] at e8; subst e8; clear hN8 hg8 hB8)
                  | (go_at_call 88; fail))
                obtain ⟨a9, c9, e9, hR9, _⟩ := I8.out.ns.at
                rw [hlr.out] at e9
                cases e9
                have hof2 := hid (refof_idx (sk ++ [(L, R)]) sk.length m (by rw [hlr.out]; omega) (by rw [hlr.out]; omega) (some ⟨g5', 0, none⟩) c5' w8 hre.out hR9)
                rw [hlr.out] at hof2
                have hnx2 := hid (fun qs' (hs : Tm.OfSays (sk ++ [(L, R)]) (sk.length : Int) (m : Int) 0 qs') => hT1.out.next (ps := qs') (by rw [Tm.ways_at1 hmlt]; exact hs))
                clear hR9 I6 M6
                refine hof2.out.mono ?_
                rintro e w9 ⟨b9, er, qs2, v9, hs9, rfl, hN9⟩
                obtain ⟨a10, c10, rfl, _⟩ := hN9.at
                have I9 := hid (I8.out.below (Nat.le_refl _) b9)
                have M9 := hid (NewQ.x (eb := w.heap.size) hN9)
                have hs9w : w.heap.size ≤ w9.heap.size := I9.out.kp.size
                clear hN9 hof2 I8
                by_cases he : er = 0
                · subst he
                  have hql2 := hs9.len.2
                  have hT2 := hid (hnx2.out qs2 hs9)
                  clear hs9 hnx2 hst2 hT1
                  go_wp2_with (at_builtin; go_loud (refine wp_apps_p _ rfl _ _ rfl w.heap.size w.heap.size (Nat.le_refl _) (.slice a8 (pt.length + l.length + qs.length) c8) (pt ++ l ++ qs) rfl I9.out.ne _ qs2 rfl w8.heap.size M9.out (by rw [List.length_append, List.length_append]; omega) hs9w ?_); intro v11 w11' hN11 hg11 hB11; have I11 := hid (I9.out.pair hg11 hB11 hN11); obtain ⟨a11, c11, e11⟩ := hN11.slice; rw [List.length_append, List.length_append, List.length_append] at e11; subst e11; clear hN11 hg11 hB11)
                  go_roundw
                  case rel => exact ⟨m + 1, l ++ qs ++ qs2, by omega, by go_num, ⟨a11, c11, by simp [Nat.add_assoc]⟩, hT2, by have h := I11.out; simpa [Hid, List.append_assoc, Nat.add_assoc] using h⟩
                  case measure => simp [intOf]; omega
                · have hne : (er != 0) = true := by simpa using he
                  have Hs := hid (hS.out er [] [] (.inr ⟨by omega, er, [], hst2.out er qs2 _ hmlt he hT1.out hs9, .inl ⟨he, rfl, rfl, rfl⟩⟩))
                  clear he hS hs9 hnx2 hst2
                  go_wp2
                  go_ret3
                  exact ⟨er, [], [], _, _, Hs.out, rfl, NewX.nil _ _ _ _, NewX.nil _ _ _ _, I9.out.kp⟩
              · have hne : (er != 0) = true := by simpa using he
                have Hs := hid (hS.out er [] [] (.inr ⟨by omega, er, [], hst.out er qs he hs6, .inl ⟨he, rfl, rfl, rfl⟩⟩))
                clear he hS hs6 hnx hst hst2
                go_wp2
                go_ret3
                exact ⟨er, [], [], _, _, Hs.out, rfl, NewX.nil _ _ _ _, NewX.nil _ _ _ _, I6.out.kp⟩
end Go.Proofs.YtglohanbpjaieaaGreat
