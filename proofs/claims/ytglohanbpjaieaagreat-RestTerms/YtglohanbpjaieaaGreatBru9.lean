/-
  Parts of the proof: Ord9, Ord10, Ord11, Ord12, Ord13, MTrue2, Ref1, Ref2, Ref3.
-/
import Derived.Test.YtglohanbpjaieaaGreatBru8
set_option maxHeartbeats 1000000
set_option maxRecDepth 100000
namespace Go.Proofs.YtglohanbpjaieaaGreat
open Go.Proofs Go.RowKit Go.Shelf Go.Maps
theorem Rc (C:Sd) (O:Q8 C):∀ (n i j:Nat),(C.za.length - i)+(C.zb.length - j) < n→i < C.za.length→j < C.zb.length→jZ C 89 i j (Tm.ab C.rk C.za C.zb i j) fun k l=>k < i∨l < j:=by
 intro n;induction n with
 | zero=>intro i j h;omega
 | succ n ih =>
  intro i j hn hi hj;exact Oq C O i j hi hj (Le C O i j hi hj fun k h1 h2=>ih k j (by omega) h2 hj)
   (FQ C O i j hi hj (fun l h1 h2=>ih i l (by omega) hi h2) fun e=>Ji C O i j hi hj e fun k l h1 h2 h3 h4=>ih k l (by omega) h2 h4)
def Tm.hasB (zs:List Int) (x:Int):Bool:=decide (x∈zs)
theorem Lt {zs:List Int} {x:Int} {k:Nat} (h:∀ j,j < k→zs[j]?.getD 0≠x) (hx:zs[k]?.getD 0≠x):∀ j,j < k+1→zs[j]?.getD 0≠x:=fun j hj=>by
 by_cases e:j = k
 ·rw [e];exact hx
 ·exact h j (by omega)
theorem GV {zs:List Int} {x:Int} {k:Nat} (hk:k < zs.length) (hx:zs[k]?.getD 0 = x):Tm.hasB zs x = true:=by
 unfold Tm.hasB;rw [decide_eq_true_eq,← hx];simp [hk]
theorem DK {zs:List Int} {x:Int} (h:∀ j,j < zs.length→zs[j]?.getD 0≠x):Tm.hasB zs x = false:=by
 unfold Tm.hasB;rw [decide_eq_false_iff_not];intro hm;obtain ⟨j,hj,e⟩:=List.mem_iff_getElem.1 hm;exact h j hj (by simp [hj,e])
theorem Re (zs:List Int) (x:Int) (a:Option Addr) (cap:Nat) (w:World) (hI:Ints w.heap.size w a zs) (hm:zs.length≤maxLen) :
 Calls Tryz.prog 121 #[.slice a zs.length cap,.int .i64 x] w fun e w'=>∃ k:Int,e = .returned (.int .i64 k)∧decide (0≤k) = Tm.hasB zs x∧w' = w:=by
 unfold maxLen at hm;go_enter Tryz.func121,Tryz.ntmps121;go_wp2;go_loop [8] (fun i=>∃ k:Nat,k≤zs.length∧i = .int .i64 (k:Int)∧∀ j,j < k→zs[j]?.getD 0≠x) (fun i=>zs.length - (intOf i).toNat)
 case atStart=>exact ⟨0,Nat.zero_le _,rfl,fun j hj=>by omega⟩
 case round =>
  obtain ⟨k,hk,rfl,hno⟩:=hrel;by_cases hlt:k < zs.length
  ·have hlt':(k:Int) < (zs.length:Int):=by omega
   obtain ⟨b,off,rfl,hb,hc⟩:=hI.at (by omega);have hck:=hc k hlt;have hsn:=hid (Lt hno);have hye:=hid (@GV zs x k hlt);clear hc hI hno;generalize zs[k]?.getD 0 = s at *;by_cases he:s = x
   ·have hb1:(x == s) = true:=by simp [he]
    have He:=hid he;clear he;go_wp2;go_ret;exact ⟨_,rfl,by rw [hye.out He.out];simp,rfl⟩
   ·have hb1:(x == s) = false:=by simp;exact fun e=>he e.symm
    have He:=hid he;clear he;go_wp2;go_round
    case rel=>exact ⟨k+1,by omega,by go_num,hsn.out He.out⟩
    case measure=>simp [intOf];omega
  ·obtain rfl:k = zs.length:=by omega
   have hn:=hid (DK hno);clear hno;go_wp2;go_ret;exact ⟨-1,rfl,by rw [hn.out];rfl,rfl⟩
theorem Jj (zs:List Int) (x:Int) (a:Option Addr) (cap:Nat) (w:World) (hI:Ints w.heap.size w a zs) (hm:zs.length≤maxLen) :
 Calls Tryz.prog 97 #[.slice a zs.length cap,.int .i64 x] w fun e w'=>e = .returned (.bool (Tm.hasB zs x))∧w' = w:=by
 have hC:=Re zs x a cap w hI hm;go_enter Tryz.func97,Tryz.ntmps97;go_wp2_with fail;refine hC.mono ?_;rintro e w ⟨k,rfl,hk,rfl⟩;have Hk:=hid hk;clear hk hC;go_wp2;go_ret;exact ⟨fG Hk.out,rfl⟩
def Tm.aZ (rk:List Int):Int:=if rk.length = 6 then (if (List.range 6).all (fun n=>Tm.hasB rk (n:Int)) = true then 0 else 3) else 1
theorem Lg {rk:List Int} (h6:rk.length = 6) {n:Nat} (hn:n < 6) (h:Tm.hasB rk (n:Int) = false):Tm.aZ rk = 3:=by
 unfold Tm.aZ;rw [if_pos h6,if_neg];intro e;rw [List.all_eq_true] at e;have:=e n (List.mem_range.2 hn)
 rw [h] at this;cases this
theorem GK {rk:List Int} (h6:rk.length = 6) (h:∀ n:Nat,n < 6→Tm.hasB rk (n:Int) = true):Tm.aZ rk = 0:=by
 unfold Tm.aZ;rw [if_pos h6,if_pos];rw [List.all_eq_true];exact fun n hn=>h n (List.mem_range.1 hn)
theorem mI (rk:List Int) (a:Option Addr) (cap:Nat) (w:World) (hI:Ints w.heap.size w a rk) :
 Calls Tryz.prog 66 #[.slice a rk.length cap] w fun e w'=>e = .returned (.int .i64 (Tm.aZ rk))∧w' = w:=by
 by_cases h6:rk.length = 6
 ·have hC:=hid (fun (n:Nat)=>Jj rk (n:Int) a cap w hI (by unfold maxLen;omega))
  have hbad:=hid (fun (n:Nat) (h1:n < 6) h2=>Lg h6 h1 h2);have hgood:=hid (GK h6);have hne:((rk.length:Int) != 6) = false:=by simp;omega
  clear h6;generalize Tm.aZ rk = q at *;go_enter Tryz.func66,Tryz.ntmps66;go_wp2;go_loop [7] (fun i=>∃ k:Nat,k≤6∧i = .int .i64 (k:Int)∧∀ j:Nat,j < k→Tm.hasB rk (j:Int) = true) (fun i=>6 - (intOf i).toNat)
  case atStart=>exact ⟨0,Nat.zero_le _,rfl,fun j hj=>by omega⟩
  case round =>
   obtain ⟨k,hk,rfl,hall⟩:=hrel;by_cases hlt:k < 6
   ·have hlt':(k:Int) < 6:=by omega
    have GX:=hC.out k;cases hq:Tm.hasB rk (k:Int) with
    | true =>
     rw [hq] at GX;have UZ:=hid (fun (j:Nat) (hj:j < k+1)=>show Tm.hasB rk (j:Int) = true by
      by_cases e:j = k
      ·rw [e];exact hq
      ·exact hall j (by omega))
     clear hq hall;go_wp2_with (go_at_call 97;refine GX.mono ?_;rintro e w ⟨rfl,rfl⟩)
     go_round
     case rel=>exact ⟨k+1,by omega,by go_num,UZ.out⟩
     case measure=>simp [intOf];omega
    | false =>
     rw [hq] at GX;have hb:=hid (hbad.out k hlt hq);clear hq hall hbad;go_wp2_with (go_at_call 97;refine GX.mono ?_;rintro e w ⟨rfl,rfl⟩)
     go_ret;exact ⟨by rw [hb.out];rfl,rfl⟩
   ·obtain rfl:k = 6:=by omega
    have hg:=hid (hgood.out hall);clear hall;go_wp2;go_ret;exact ⟨by rw [hg.out];rfl,rfl⟩
 ·have hne:((rk.length:Int) != 6) = true:=by simp;omega
  have he:Tm.aZ rk = 1:=by unfold Tm.aZ;rw [if_neg h6]
  rw [he];clear h6 he;go_enter Tryz.func66,Tryz.ntmps66;go_wp2;go_ret;exact ⟨rfl,rfl⟩
def Tm.iX (rk za zb:List Int):Int:=if Tm.aZ rk = 0 then (if Tm.err za = 0 then Tm.err zb else Tm.err za) else Tm.aZ rk
def Tm.bg (rk za zb:List Int):Bool:=if Tm.iX rk za zb = 0 then Tm.above (Tm.lu rk) za zb else false
theorem zK {rk:List Int} (h:Tm.aZ rk = 0):rk.length = 6:=by
 unfold Tm.aZ at h;by_cases h6:rk.length = 6
 ·exact h6
 ·rw [if_neg h6] at h;omega
theorem Rf (w:World) (br fr cr ba fa ca bb fb cb:Nat) (rk za zb:List Int) (hR:Ints w.heap.size w (some ⟨br,fr,none⟩) rk) (hA:Ints w.heap.size w (some ⟨ba,fa,none⟩) za) (hB:Ints w.heap.size w (some ⟨bb,fb,none⟩) zb) :
 fT ⟨w.heap.size+1,w.heap.size,br,fr,cr,ba,fa,ca,bb,fb,cb,rk,za,zb⟩ ((w.alloc (.map #[] 0)).alloc (.cells #[.slice (some ⟨br,fr,none⟩) rk.length cr,.slice (some ⟨ba,fa,none⟩) za.length ca,.slice (some ⟨bb,fb,none⟩) zb.length cb,.map (some w.heap.size)] 126)) (fun _=>none):=by
 have hb:Below w.heap.size w ((w.alloc (.map #[] 0)).alloc (.cells #[.slice (some ⟨br,fr,none⟩) rk.length cr,.slice (some ⟨ba,fa,none⟩) za.length ca,.slice (some ⟨bb,fb,none⟩) zb.length cb,.map (some w.heap.size)] 126)):=((Below.refl _ w).alloc (Nat.le_refl _) _).alloc (by simp) _;refine ⟨?_,(hR.below hb).mono hb.size,(hA.below hb).mono hb.size,(hB.below hb).mono hb.size,0,(KMap.made _ w).keep (Below.heap_alloc _ _ _ (by simp)),(fun _ _ _ h=>by cases h),Nat.zero_le _⟩;have h:=World.alloc_heap_new (w.alloc (.map #[] 0)) (.cells #[.slice (some ⟨br,fr,none⟩) rk.length cr,.slice (some ⟨ba,fa,none⟩) za.length ca,.slice (some ⟨bb,fb,none⟩) zb.length cb,.map (some w.heap.size)] 126);rw [World.size_alloc] at h;exact h
theorem mJ (rk za zb:List Int) (ar aa ab:Option Addr) (cr ca cb:Nat) (w:World) (hR:Ints w.heap.size w ar rk) (hA:Ints w.heap.size w aa za) (hB:Ints w.heap.size w ab zb) (Db:za.length≤ca) (DD:ca≤maxLen) (hcb:zb.length≤cb) (DF:cb≤maxLen) :
 Calls Tryz.prog 59 #[.slice ar rk.length cr,.slice aa za.length ca,.slice ab zb.length cb] w fun e w'=>e = .returned (.tuple #[.bool (Tm.bg rk za zb),.int .i64 (Tm.iX rk za zb)])∧Below w.heap.size w w':=by
 have jw:=mI rk ar cr w hR;by_cases h1:Tm.aZ rk = 0
 ·rw [h1] at jw
  have hC2:=dZ za aa ca w hA;by_cases h2:Tm.err za = 0
  ·rw [h2] at hC2
   have MG:=hid (fun w' (hb:Below w.heap.size w w')=>dZ zb ab cb w' ((hB.below hb).mono hb.size));have he:Tm.iX rk za zb = Tm.err zb:=by unfold Tm.iX;rw [if_pos h1,if_pos h2]
   by_cases h3:Tm.err zb = 0
   ·rw [h3] at MG he
    have hv:Tm.bg rk za zb = Tm.ab rk za zb 0 0:=by
     unfold Tm.bg Tm.ab;rw [if_pos he,Tm.jb (Tm.eT h2),Tm.jb (Tm.eT h3)]
    rw [he,hv];have h6:=zK h1;obtain ⟨br,fr,rfl,hbr,_⟩:=hR.at (by omega);obtain ⟨ba,fa,rfl,Rk,_⟩:=hA.at (Tm.bM h2);obtain ⟨bb,fb,rfl,hbb,_⟩:=hB.at (Tm.bM h3);have hfin:=hid (fun (w2:World) (hb:Below w.heap.size w w2)=>Rc ⟨w2.heap.size+1,w2.heap.size,br,fr,cr,ba,fa,ca,bb,fb,cb,rk,za,zb⟩ ⟨h2,h3,h6,Db,hcb,DD,DF⟩ _ 0 0 (Nat.lt_succ_self _) (Tm.bM h2) (Tm.bM h3)
     ((w2.alloc (.map #[] 0)).alloc (.cells #[.slice (some ⟨br,fr,none⟩) rk.length cr,.slice (some ⟨ba,fa,none⟩) za.length ca,.slice (some ⟨bb,fb,none⟩) zb.length cb,.map (some w2.heap.size)] 126)) (fun _=>none) (Rf w2 br fr cr ba fa ca bb fb cb rk za zb ((hR.below hb).mono hb.size) ((hA.below hb).mono hb.size) ((hB.below hb).mono hb.size)))
    clear h1 h2 h3 h6 he hv hR hA hB Db hcb DD DF;have hmm:=@run_makeMap Tryz.prog;go_enter Tryz.func59,Tryz.ntmps59;go_wp2_with (first
     | (go_at_call 66;refine jw.mono ?_;clear jw;rintro e w ⟨rfl,rfl⟩)
     | (go_at_call_of 49 (Value.slice (some ⟨ba,fa,none⟩) za.length ca);refine hC2.mono ?_;clear hC2;rintro e w1 ⟨rfl,hb1⟩)
     | (go_at_call_of 49 (Value.slice (some ⟨bb,fb,none⟩) zb.length cb);refine (MG.out _ hb1).mono ?_;clear MG;rintro e w2 ⟨rfl,hb2⟩;have hb3:=hb1.trans (hb2.mono hb1.size);have hF:=hid (hfin.out w2 hb3);clear hfin)
     | (go_at_call 89;refine hF.out.mono ?_;clear hF;rintro e w3 ⟨rfl,hK,_⟩))
    go_ret2
    have hb4:Below w2.heap.size w2 ((w2.alloc (.map #[] 0)).alloc (.cells #[.slice (some ⟨br,fr,none⟩) rk.length cr,.slice (some ⟨ba,fa,none⟩) za.length ca,.slice (some ⟨bb,fb,none⟩) zb.length cb,.map (some w2.heap.size)] 126)):=((Below.refl _ w2).alloc (Nat.le_refl _) _).alloc (by simp) _;exact ⟨rfl,hb3.trans ((hb4.trans ((hK.mono hb4.size).below (Nat.le_refl _))).mono hb3.size)⟩
   ·have hv:Tm.bg rk za zb = false:=by unfold Tm.bg;rw [he,if_neg h3]
    have hn:(Tm.err zb != 0) = true:=by simpa using h3
    rw [he,hv];clear h1 h2 h3 he hv Db hcb DD DF;generalize Tm.err zb = q at *;go_enter Tryz.func59,Tryz.ntmps59;go_wp2_with fail;refine jw.mono ?_;rintro e w ⟨rfl,rfl⟩;go_wp2_with fail;refine hC2.mono ?_;rintro e w1 ⟨rfl,hb1⟩;go_wp2_with fail;refine (MG.out _ hb1).mono ?_;rintro e w2 ⟨rfl,hb2⟩;go_wp2;go_ret2
    exact ⟨rfl,hb1.trans (hb2.mono hb1.size)⟩
  ·have he:Tm.iX rk za zb = Tm.err za:=by unfold Tm.iX;rw [if_pos h1,if_neg h2]
   have hv:Tm.bg rk za zb = false:=by unfold Tm.bg;rw [he,if_neg h2]
   have hn:(Tm.err za != 0) = true:=by simpa using h2
   rw [he,hv];clear h1 h2 he hv Db hcb DD DF;generalize Tm.err za = q at *;go_enter Tryz.func59,Tryz.ntmps59;go_wp2_with fail;refine jw.mono ?_;rintro e w ⟨rfl,rfl⟩;go_wp2_with fail;refine hC2.mono ?_;rintro e w1 ⟨rfl,hb1⟩;go_wp2;go_ret2
   exact ⟨rfl,hb1⟩
 ·have he:Tm.iX rk za zb = Tm.aZ rk:=by unfold Tm.iX;rw [if_neg h1]
  have hv:Tm.bg rk za zb = false:=by unfold Tm.bg;rw [he,if_neg h1]
  have hn:(Tm.aZ rk != 0) = true:=by simpa using h1
  rw [he,hv];clear h1 he hv Db hcb DD DF;generalize Tm.aZ rk = q at *;go_enter Tryz.func59,Tryz.ntmps59;go_wp2_with fail;refine jw.mono ?_;rintro e w ⟨rfl,rfl⟩;go_wp2;go_ret2
  exact ⟨rfl,Below.refl _ _⟩
def rk6:List Int:=[0,1,2,3,4,5]
theorem Yw (w:World) (p t:List Int):Ints (w.heap.size+2) ((w.alloc (.cells (p.map (Value.int .i64)).toArray 3)).alloc (.cells (t.map (Value.int .i64)).toArray 3)) (some ⟨w.heap.size,0,none⟩) p ∧
 Ints (w.heap.size+2) ((w.alloc (.cells (p.map (Value.int .i64)).toArray 3)).alloc (.cells (t.map (Value.int .i64)).toArray 3)) (some ⟨w.heap.size+1,0,none⟩) t ∧
 Below w.heap.size w ((w.alloc (.cells (p.map (Value.int .i64)).toArray 3)).alloc (.cells (t.map (Value.int .i64)).toArray 3)):=by
 have h1:=fH w p (w.heap.size+1) rfl;have h2:=fH (w.alloc (.cells (p.map (Value.int .i64)).toArray 3)) t (w.heap.size+2) (by simp);simp only [World.size_alloc] at h2;exact ⟨(h1.below ((Below.refl _ _).alloc (by simp) _)).mono (by omega),h2,((Below.refl _ w).alloc (Nat.le_refl _) _).alloc (by simp) _⟩
theorem EZ (w:World):Calls Tryz.prog 20 #[] w fun e w'=>∃ a,e = .returned (.slice a 6 6)∧Ints w'.heap.size w' a rk6∧Below w.heap.size w w':=by
 have h:=fH w [0,1,2,3,4,5] _ rfl;simp only [List.map_cons,List.map_nil] at h;go_enter Tryz.func20,Tryz.ntmps20;go_wp2;go_ret;exact ⟨_,rfl,by simpa [rk6] using h,(Below.refl _ _).alloc (Nat.le_refl _) _⟩
theorem Tm.gz {rk za zb:List Int} (h1:Tm.aZ rk = 0) (h2:Tm.err za = 0) (h3:Tm.err zb = 0):Tm.iX rk za zb = 0:=by unfold Tm.iX;rw [if_pos h1,if_pos h2,h3]
theorem Tm.pI {rk za zb:List Int} (h:Tm.iX rk za zb = 0):Tm.bg rk za zb = true ↔ Tm.Gt (Tm.lu rk) za zb:=by
 unfold Tm.bg;rw [if_pos h];exact Tm.Ci
end Go.Proofs.YtglohanbpjaieaaGreat
namespace Go.Proofs.YtglohanbpjaieaaGreat
open Go.Proofs Go.RowKit Go.Shelf
theorem Tm.Rh (p t:List Int) (ht:Tm.err t = 0):∀ (n i k:Nat) (m m':nT),p.length - i = n→i≤p.length→fo p t i k→(∀ x z,m x = some z→Tm.err z = 0)→Tm.fitGo t (p.drop i) k m = some m'→∀ x z,m' x = some z→Tm.err z = 0:=by
 intro n;induction n with
 | zero =>
  intro i k m m' hn hi ha hm h;obtain rfl:i = p.length:=by omega
  rw [List.drop_length,Tm.kC] at h;cases h;exact hm
 | succ n ih =>
  intro i k m m' hn hi ha hm h;have hlt:i < p.length:=by omega
  have hk:=ha.pos hlt;rw [List.drop_eq_getElem_cons hlt,Tm.fitGo] at h;by_cases hs:p[i] < 0
  ·rw [if_pos hs] at h
   by_cases hc:(m p[i]).isSome = true∧m p[i]≠some (Tm.part t k)
   ·rw [if_pos hc] at h;cases h
   ·rw [if_neg hc] at h
    refine ih (i+1) (Tm.ai t k) _ m' (by omega) (by omega) (ha.var hlt (by simpa [hlt] using hs)) (fun x z hx=>?_) h;by_cases e:x = p[i]
    ·subst e;rw [upd_same] at hx;cases hx;exact Tm.dC ht hk
    ·rw [gP _ _ e] at hx;exact hm x z hx
  ·rw [if_neg hs] at h
   by_cases hu:t[k]?.getD 0 = p[i]
   ·rw [if_pos hu] at h
    exact ih (i+1) (k+1) m m' (by omega) (by omega) (ha.sym hlt (by simpa [hlt] using hu)) hm h
   ·rw [if_neg hu] at h;cases h
theorem Tm.FR:∀ (l:List (List Int)),(∀ t∈l,Tm.err t = 0)→Tm.firstErr l = 0:=by
 intro l;induction l with
 | nil=>intro _;rfl
 | cons t l ih =>
  intro h;unfold Tm.firstErr;rw [if_pos (h t (by simp))];exact ih (fun x hx=>h x (by simp [hx]))
theorem Tm.Dj (i:Nat) (h:i < 8):Tm.err [-1 - (i:Int)] = 0:=by
 refine Tm.oJ (by simp) ?_ ?_
 ·simp [Tm.known];omega
 ·rw [show (1:Nat) = 0+1 from rfl,Tm.bU,Tm.zJ (by omega),Tm.cZ];rfl
theorem Tm.qH {p t:List Int} {m:nT} (hp:Tm.err p = 0) (ht:Tm.err t = 0) (h:Tm.fit p t = some m):Tm.dO (Tm.gp m 8) = 0:=by
 have hm:=Tm.Rh p t ht _ 0 0 (fun _=>none) m rfl (by omega) (fo.start hp ht) (fun x z hx=>by cases hx) (by simpa [Tm.fit] using h);unfold Tm.dO;rw [if_pos (Tm.ll _ _)];refine Tm.FR _ fun x hx=>?_
 unfold Tm.gp at hx;rw [List.mem_map] at hx;obtain ⟨i,hi,rfl⟩:=hx;rw [List.mem_range] at hi;rw [if_pos hi];cases e:m (-1 - (i:Int)) with
 | none=>exact Tm.Dj i hi
 | some z=>exact hm _ z e
end Go.Proofs.YtglohanbpjaieaaGreat
namespace Go.Proofs.YtglohanbpjaieaaGreat
open Go.Proofs Go.RowKit Go.Shelf Go.Maps
theorem U0 {zs:List Int} {x:Int} {k:Nat} (hk:k < zs.length):Tm.hasB (zs.take (k+1)) x = (Tm.hasB (zs.take k) x || (zs[k]?.getD 0 == x)):=by
 unfold Tm.hasB;rw [j3 hk,Bool.eq_iff_iff];simp only [decide_eq_true_eq,List.mem_append,List.mem_singleton,Bool.or_eq_true,beq_iff_eq];exact ⟨fun h=>h.imp id Eq.symm,fun h=>h.imp id Eq.symm⟩
theorem rY (rk:List Int) (a:Option Addr) (cap:Nat) (w:World) (hI:Ints w.heap.size w a rk) :
 Calls Tryz.prog 34 #[.slice a rk.length cap] w fun e w'=>e = .returned (.int .i64 (Tm.aZ rk))∧w' = w:=by
 by_cases h6:rk.length = 6
 ·have hbad:=hid (fun (n:Nat) (h1:n < 6) h2=>Lg h6 h1 h2)
  have hgood:=hid (GK h6);have hne:((rk.length:Int) != 6) = false:=by simp;omega
  have hl6:(rk.length:Int)≤6:=by omega
  obtain ⟨b,off,rfl,hb,hc⟩:=hI.at (by omega);have Hc:=hid hc;clear h6 hc;generalize Tm.aZ rk = q at *;go_enter Tryz.func34,Tryz.ntmps34;go_wp2;go_loop [3] (fun i=>∃ n:Nat,n≤6∧i = .int .i64 (n:Int)∧∀ j:Nat,j < n→Tm.hasB rk (j:Int) = true) (fun i=>6 - (intOf i).toNat)
  case atStart=>exact ⟨0,Nat.zero_le _,rfl,fun j hj=>by omega⟩
  case round =>
   obtain ⟨n,hn,rfl,hall⟩:=hrel;have nH:=hid hall;clear hall;by_cases hlt:n < 6
   ·have hlt':(n:Int) < 6:=by omega
    go_wp2;go_loop [4,5] (fun f i=>∃ k:Nat,k≤rk.length∧i = .int .i64 (k:Int)∧f = .bool (Tm.hasB (rk.take k) (n:Int))) (fun _ i=>rk.length - (intOf i).toNat)
    case atStart=>exact ⟨0,Nat.zero_le _,rfl,by simp [Tm.hasB]⟩
    case round =>
     obtain ⟨k,hk,rfl,rfl⟩:=hrel;by_cases hk2:k < rk.length
     ·have am5:(k:Int) < (rk.length:Int):=by omega
      have hck:=Hc.out k hk2;have hsn:=hid (U0 (x:=(n:Int)) hk2);generalize rk[k]?.getD 0 = s at *;cases Dl:Tm.hasB (rk.take k) (n:Int) with
      | true =>
       rw [Dl] at hsn;clear Dl;go_wp2;go_round
       case rel=>exact ⟨k+1,by omega,by go_num,by rw [hsn.out];rfl⟩
       case measure=>simp [intOf];omega
      | false =>
       rw [Dl] at hsn;clear Dl;go_wp2;go_round
       case rel=>exact ⟨k+1,by omega,by go_num,by rw [hsn.out];rfl⟩
       case measure=>simp [intOf];omega
     ·obtain rfl:k = rk.length:=by omega
      rw [List.take_length];cases hq:Tm.hasB rk (n:Int) with
      | true =>
       have UZ:=hid (fun j (hj:j < n+1)=>show Tm.hasB rk ((j:Nat):Int) = true by
        by_cases e:j = n
        ·rw [e];exact hq
        ·exact nH.out j (by omega))
       clear hq;go_wp2;go_round
       case rel=>exact ⟨n+1,by omega,by go_num,UZ.out⟩
       case measure=>simp [intOf];omega
      | false =>
       have hb':=hid (hbad.out n hlt hq);clear hq;go_wp2;go_ret;exact ⟨by rw [hb'.out];rfl,rfl⟩
   ·obtain rfl:n = 6:=by omega
    have hg:=hid (hgood.out nH.out);go_wp2;go_ret;exact ⟨by rw [hg.out];rfl,rfl⟩
 ·have hne:((rk.length:Int) != 6) = true:=by simp;omega
  have he:Tm.aZ rk = 1:=by unfold Tm.aZ;rw [if_neg h6]
  rw [he];clear h6 he;go_enter Tryz.func34,Tryz.ntmps34;go_wp2;go_ret;exact ⟨rfl,rfl⟩
def Tm.BB (t:List Int) (k m:Nat):List Int:=(List.range m).map fun i=>(Tm.pos t k i:Int)
theorem Tm.DI (t:List Int) (k m:Nat):(Tm.BB t k m).length = m:=by simp [Tm.BB]
theorem Tm.Ri (t:List Int) (k m:Nat):Tm.BB t k (m+1) = Tm.BB t k m++[(Tm.pos t k m:Int)]:=by simp [Tm.BB,List.range_succ]
theorem Tm.Ou (t:List Int) (k:Nat) {m i:Nat} (h:i < m):(Tm.BB t k m)[i]?.getD 0 = (Tm.pos t k i:Int):=by simp [Tm.BB,h]
theorem Tm.BC {t:List Int} (he:Tm.err t = 0) {k:Nat} (hk:k < t.length) {m:Nat} (hm:m < Tm.room (t[k]?.getD 0)):Tm.pos t k m < t.length:=by
 have h1:=Tm.mO he hk m (by omega);have h2:=Tm.pq (Tm.dC he hk) (m:=m) (by rw [Tm.jl he hk];exact hm);rw [Tm.dF he hk] at h2;have h3:=Tm.fV he hk;omega
theorem Ck (t:List Int) (a:Option Addr) (cap k:Nat) (w:World) (hI:Ints w.heap.size w a t) (h1:t.length≤cap) (h2:cap≤maxLen) (he:Tm.err t = 0) (hk:k < t.length) :
 Calls Tryz.prog 93 #[.slice a t.length cap,.int .i64 (k:Int)] w fun e w'=>∃ v,e = .returned v∧New w.heap.size w' v (Tm.BB t k (Tm.room (t[k]?.getD 0)))∧Below w.heap.size w w':=by
 have WR:=Tm.aI he;have OU:(t.length:Int)≤30:=by omega
 have hkl:(k:Int) < (t.length:Int):=by omega
 have hs6:=Tm.gK (Tm.lq (Tm.dH he) hk);have hend:=hid (fun W (hW:Below w.heap.size w W) j (hj:j < t.length)=>qW t a cap j W ((hI.below hW).mono hW.size) h1 h2 he hj);have ahJ:=hid (fun m (hm:m < Tm.room (t[k]?.getD 0))=>Tm.BC he hk hm);have hcell:=hid (fun W (hW:Below w.heap.size w W)=>((hI.below hW).mono hW.size));have hr2:=Tm.room_le (t[k]?.getD 0);have hz:=hid (fun W=>yG (t[k]?.getD 0) W hs6);obtain ⟨b,off,rfl,hb,_⟩:=hI.at (by omega);have hcc:=hid (fun W (hW:Below w.heap.size w W)=>show W.cell? ⟨b,off+k,none⟩ = some (.int .i64 (t[k]?.getD 0)) by
  obtain ⟨b',off',e,_,hc⟩:=hcell.out W hW k hk;cases e;exact hc)
 clear hI h1 h2 he hs6 hcell;generalize hr:Tm.room (t[k]?.getD 0) = r at *;clear hr;generalize t[k]?.getD 0 = s at *;go_enter Tryz.func93,Tryz.ntmps93;go_wp2;go_loopw [5,6,7] (fun v p i wr=>∃ m:Nat,m≤r∧i = .int .i64 (m:Int)∧p = .int .i64 (Tm.pos t k m:Int)∧New w.heap.size wr v (Tm.BB t k m)∧Below w.heap.size w wr) (fun _ _ i _=>r - (intOf i).toNat)
 case atStart=>exact ⟨0,Nat.zero_le _,rfl,by rw [Tm.dB];rfl,New.nil _ _,Below.refl _ _⟩
 case round =>
  obtain ⟨m,hm,rfl,rfl,hN,hB⟩:=hrel;obtain ⟨a0,c0,rfl,_⟩:=New.ints hN;have hck:=hcc.out wr hB;have hpl:(Tm.BB t k m).length≤2:=by rw [Tm.DI];omega
  by_cases hlt:m < r
  ·have hlt':(m:Int) < (r:Int):=by omega
   have hp:=ahJ.out m hlt;have hst:=hid (Tm.Ri t k m);have hps:=hid (Tm.ed t k m);go_wp2_with (first
    | (go_at_call 43;refine (hz.out _).mono ?_;rintro e wr ⟨rfl,rfl⟩)
    | (at_builtin;go_loud (refine mP _ rfl _ _ rfl w.heap.size _ (Tm.BB t k m) rfl (New.alloc hN _) wr.heap.size (Tm.pos t k m:Int) rfl (kP _ _ _ _ rfl) (by omega) (by have:=hB.size;simp;omega) ?_);intro v' w3 iD hg3 gq;obtain ⟨a3,c3,rfl,_⟩:=New.ints iD;have Jo:=(hB.alloc hB.size _).trans gq)
    | (go_at_call 120;refine (hend.out _ Jo _ hp).mono ?_;rintro e w4 ⟨rfl,JV⟩))
   go_roundw
   case rel=>exact ⟨m+1,by omega,by go_num,by rw [hps.out],by rw [hst.out];exact New.below (by simpa using iD) JV,Jo.trans (JV.mono Jo.size)⟩
   case measure=>simp [intOf];omega
  ·obtain rfl:m = r:=by omega
   have hnl:¬ (m:Int) < (m:Int):=by omega
   go_wp2_with (first
    | (go_at_call 43;refine (hz.out _).mono ?_;rintro e wr ⟨rfl,rfl⟩))
   go_ret;exact ⟨_,rfl,hN,hB⟩
def yJ (W:World) (B:Nat) (f:Nat→Nat→Bool):Prop:=B < W.heap.size∧∀ i j,i < 30→j < 30→W.cell? ⟨B,i * 30+j,none⟩ = some (.bool (f i j))∧W.frozen? ⟨B,i * 30+j,none⟩ = false
theorem yJ.below {W W':World} {B:Nat} {f:Nat→Nat→Bool} (h:yJ W B f) (hB:Below W.heap.size W W'):yJ W' B f :=
 ⟨Nat.lt_of_lt_of_le h.1 hB.size,fun i j hi hj=>⟨(hB.cell (p:=⟨B,i * 30+j,none⟩) h.1).trans (h.2 i j hi hj).1,(hB.frozen (p:=⟨B,i * 30+j,none⟩) h.1).trans (h.2 i j hi hj).2⟩⟩
theorem yJ.drew {W:World} {B:Nat} {f:Nat→Nat→Bool} (h:yJ W B f) (d:Nat):yJ (W.drewN d) B f:=h
def Jk (f:Nat→Nat→Bool) (i j:Nat) (v:Bool):Nat→Nat→Bool:=fun p q=>if p = i∧q = j then v else f p q
theorem Br (f:Nat→Nat→Bool) (i j:Nat) (v:Bool):Jk f i j v i j = v:=by simp [Jk]
theorem rE (f:Nat→Nat→Bool) {i j p q:Nat} (v:Bool) (h:p≠i∨q≠j):Jk f i j v p q = f p q:=by
 unfold Jk;rw [if_neg];rintro ⟨rfl,rfl⟩;omega
theorem Ow (f:Nat→Nat→Bool) (i j:Nat) (v u:Bool):Jk (Jk f i j v) i j u = Jk f i j u:=by
 funext p q
 simp only [Jk];split <;> rfl
theorem yJ.set {W:World} {B:Nat} {f:Nat→Nat→Bool} (h:yJ W B f) {i j:Nat} (hi:i < 30) (hj:j < 30) (v:Bool):yJ (W.setCell ⟨B,i * 30+j,none⟩ (.bool v)) B (Jk f i j v):=by
 refine ⟨Nat.lt_of_lt_of_le h.1 (KeepsWalks.setCell W _ _).size,fun p q hp hq=>⟨?_,by rw [World.frozen?_setCell];exact (h.2 p q hp hq).2⟩⟩;by_cases e:p = i∧q = j
 ·obtain ⟨rfl,rfl⟩:=e
  rw [Br];exact World.cell?_setCell_same _ _ _ (h.2 p q hp hq).1
 ·rw [rE _ _ (by omega),World.cell?_setCell_other (h:=fun e'=>by
   simp only [Addr.mk.injEq,and_true,true_and] at e';omega)]
  exact (h.2 p q hp hq).1
theorem yJ.eq {W:World} {B:Nat} {f g:Nat→Nat→Bool} (h:yJ W B f) (e:f = g):yJ W B g:=e ▸ h
def Cj (rk za zb:List Int) (n m p q:Nat):Bool:=if p < za.length∧q < zb.length∧(n < p∨(p = n∧m≤q)) then Tm.ab rk za zb p q else false
def Rj (rk za zb:List Int) (n p q:Nat):Bool:=if p < za.length∧q < zb.length∧n≤p then Tm.ab rk za zb p q else false
theorem PO (rk za zb:List Int) (i:Nat):Rj rk za zb (i+1) = Cj rk za zb i zb.length:=by
 funext p q
 unfold Rj Cj;by_cases h:p < za.length∧q < zb.length∧i+1≤p
 ·rw [if_pos h,if_pos ⟨h.1,h.2.1,by omega⟩]
 ·rw [if_neg h,if_neg (by omega)]
theorem Vo (rk za zb:List Int) (i:Nat):Cj rk za zb i 0 = Rj rk za zb i:=by
 funext p q
 unfold Rj Cj;by_cases h:p < za.length∧q < zb.length∧i≤p
 ·rw [if_pos ⟨h.1,h.2.1,by omega⟩,if_pos h]
 ·rw [if_neg (by omega),if_neg h]
theorem RO {rk za zb:List Int} {i j:Nat} (hi:i < za.length) (hj:j < zb.length):Jk (Cj rk za zb i (j+1)) i j (Tm.ab rk za zb i j) = Cj rk za zb i j:=by
 funext p q
 by_cases e:p = i∧q = j
 ·obtain ⟨rfl,rfl⟩:=e
  rw [Br];unfold Cj;rw [if_pos ⟨hi,hj,by omega⟩]
 ·rw [rE _ _ (by omega)]
  unfold Cj;by_cases h:p < za.length∧q < zb.length∧(i < p∨(p = i∧j≤q))
  ·rw [if_pos h,if_pos ⟨h.1,h.2.1,by omega⟩]
  ·rw [if_neg h,if_neg (by omega)]
theorem U1 (rk za zb:List Int) (i j:Nat):Cj rk za zb i (j+1) i j = false:=by unfold Cj;rw [if_neg (by omega)]
theorem Xb {rk za zb:List Int} {i m p q:Nat} (hp:p < za.length) (hq:q < zb.length) (h:i < p):Cj rk za zb i m p q = Tm.ab rk za zb p q:=by unfold Cj;rw [if_pos ⟨hp,hq,.inl h⟩]
theorem Xc {rk za zb:List Int} {i m q:Nat} (hp:i < za.length) (hq:q < zb.length) (h:m≤q):Cj rk za zb i m i q = Tm.ab rk za zb i q:=by unfold Cj;rw [if_pos ⟨hp,hq,.inr ⟨rfl,h⟩⟩]
theorem yJ.off {W:World} {B:Nat} {rk za zb:List Int} {i j:Nat} {v:Bool} (h:yJ W B (Jk (Cj rk za zb i (j+1)) i j v)) {p q:Nat} (hp:p < za.length) (hq:q < zb.length) (hl:i < p∨(p = i∧j < q)) (h1:p < 30) (h2:q < 30):W.cell? ⟨B,p * 30+q,none⟩ = some (.bool (Tm.ab rk za zb p q)):=by
 have h3:=(h.2 p q h1 h2).1;rw [rE _ _ (by omega)] at h3;rcases hl with hl | ⟨rfl,hl⟩
 ·rw [Xb hp hq hl] at h3;exact h3
 ·rw [Xc hp hq (by omega)] at h3;exact h3
theorem yJ.on {W:World} {B:Nat} {f:Nat→Nat→Bool} {i j:Nat} {v:Bool} (h:yJ W B (Jk f i j v)) (h1:i < 30) (h2:j < 30):W.cell? ⟨B,i * 30+j,none⟩ = some (.bool v):=by
 have h3:=(h.2 i j h1 h2).1;rw [Br] at h3;exact h3
theorem U2:Tryz.zeroCells135 = (List.replicate 900 (Value.bool false)).toArray:=by kernel_rfl
theorem yJ.new (w:World) (rk za zb:List Int):yJ (w.alloc (.cells Tryz.zeroCells135 135)) w.heap.size (Rj rk za zb za.length):=by
 refine ⟨by simp,fun i j hi hj=>?_⟩;have hb:=World.alloc_heap_new w (.cells Tryz.zeroCells135 135);have h0:Rj rk za zb za.length i j = false:=by unfold Rj;rw [if_neg (by omega)]
 rw [h0];constructor
 ·rw [aM hb,U2]
  have:i * 30+j < 900:=by omega
  rw [List.getElem?_toArray,List.getElem?_replicate,if_pos this]
 ·unfold World.frozen?
  rw [hb];simp
theorem PQ (rk za zb:List Int) (i j:Nat):Cj rk za zb i (j+1) = Jk (Cj rk za zb i (j+1)) i j false:=by
 funext p q
 by_cases e:p = i∧q = j
 ·obtain ⟨rfl,rfl⟩:=e;rw [Br,U1]
 ·rw [rE _ _ (by omega)]
end Go.Proofs.YtglohanbpjaieaaGreat
