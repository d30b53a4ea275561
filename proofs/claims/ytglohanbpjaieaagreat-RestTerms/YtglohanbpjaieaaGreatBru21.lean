/-
  Parts of the proof: Nor3.
-/
import Derived.Test.YtglohanbpjaieaaGreatBru20
set_option maxHeartbeats 4000000
set_option maxRecDepth 100000
namespace Go.Proofs.YtglohanbpjaieaaGreat
open Go.Proofs Go.RowKit Go.Shelf Go.Maps
theorem jk (w:World):Calls Tryz.prog 16 #[] w fun e w'=>e = .returned (.bool true)∧Below w.heap.size w w':=by
 have h1:=hid (fun w a hI=>YK [4,4,0,1,0] [4,1,0] 5 2 a w rfl (by simp) hI Tm.n1);have h2:=hid (fun w a hI=>afz [4,1,0] 3 a w rfl (by simp) hI Tm.n2 Tm.n3);have h3:=hid (fun w a b hI hT=>Tz [([2,-1],[2,-1])] 1 a b w rfl hI hT Tm.n4);have h4:=hid (fun w a b hI hT=>Tz [([2,-1],[2,2,-1])] 1 a b w rfl hI hT Tm.n5);have r3:=hid (fun w=>Gj w [2,-1] [2,-1] 2 2 rfl rfl (by simp) (by simp));have r4:=hid (fun w=>Gj w [2,-1] [2,2,-1] 2 3 rfl rfl (by simp) (by simp));have h5:=hid (fun w a c hI=>Yr [4,1,0] [4,1,0] 3 3 c a w rfl rfl (by simp) hI (by simp [dK]));simp only [List.map_cons,List.map_nil] at h1 h2 h5 r3 r4;go_enter Tryz.func16,Tryz.ntmps16;go_wp2_with fail;refine (Gl _).mono ?_;rintro e w1 ⟨a1,rfl,hg1,b1⟩;go_wp2_with fail;refine (h1.out w1 a1 hg1).mono ?_;rintro e w2 ⟨v2,rfl,eH,b2⟩;obtain ⟨x2,c2,rfl,i2,_⟩:=New.ints eH;have B2:=b1.trans (b2.mono b1.size);clear h1 hg1 b1 b2 eH;go_wp2_with fail;refine (Gl _).mono ?_;rintro e w3 ⟨a3,rfl,hg3,b3⟩;go_wp2_with fail;refine (h2.out w3 a3 hg3).mono ?_;rintro e w4 ⟨rfl,b4⟩;have k4:=b3.trans (b4.mono b3.size);have i4:=(i2.below k4).mono k4.size;have B4:=B2.trans (k4.mono B2.size);clear h2 hg3 b3 b4 k4 i2 B2;obtain ⟨XA,b5⟩:=r3.out w4;obtain ⟨W5,mG⟩:∃ W5,(((w4.alloc (.cells #[.int .i64 2,.int .i64 (-1)] 3)).alloc (.cells #[.int .i64 2,.int .i64 (-1)] 3)).alloc (.cells #[.slice (some ⟨w4.heap.size,0,none⟩) 2 2,.slice (some ⟨w4.heap.size+1,0,none⟩) 2 2] 54)) = W5:=⟨_,rfl⟩;have hs5:W5.heap.size = w4.heap.size+1+1+1:=by rw [← mG];simp
 rw [mG] at XA b5;rw [← hs5] at XA;have Va:=hid mG;clear mG r3;go_wp2_with fail;rw [Va.out];refine (Kc _).mono ?_;rintro e w6 ⟨a6,rfl,hf6,b6⟩;go_wp2_with fail;refine (h3.out w6 _ a6 ((XA.below b6).mono b6.size) hf6).mono ?_;rintro e w7 ⟨v7,rfl,hN7,b7⟩;obtain ⟨x7,c7,rfl,_⟩:=New.ints hN7;have k6:=b5.trans (b6.mono b5.size);have k7:=k6.trans (b7.mono k6.size);have i7:=(i4.below k7).mono k7.size;have B7:=B4.trans (k7.mono B4.size);clear h3 XA b5 b6 b7 k6 k7 i4 B4 hN7 hf6;obtain ⟨hr8,b8⟩:=r4.out w7;obtain ⟨W8,YL⟩:∃ W8,(((w7.alloc (.cells #[.int .i64 2,.int .i64 (-1)] 3)).alloc (.cells #[.int .i64 2,.int .i64 2,.int .i64 (-1)] 3)).alloc (.cells #[.slice (some ⟨w7.heap.size,0,none⟩) 2 2,.slice (some ⟨w7.heap.size+1,0,none⟩) 3 3] 54)) = W8:=⟨_,rfl⟩;have Rt:W8.heap.size = w7.heap.size+1+1+1:=by rw [← YL];simp
 rw [YL] at hr8 b8;rw [← Rt] at hr8;have HW8:=hid YL;clear YL r4;go_wp2_with fail;rw [HW8.out];refine (Kc _).mono ?_;rintro e w9 ⟨a9,rfl,hf9,b9⟩;go_wp2_with fail;refine (h4.out w9 _ a9 ((hr8.below b9).mono b9.size) hf9).mono ?_;rintro e w10 ⟨v10,rfl,aci,b10⟩;obtain ⟨x10,c10,rfl,_⟩:=New.ints aci;have k9:=b8.trans (b9.mono b8.size);have k10:=k9.trans (b10.mono k9.size);have i10:=(i7.below k10).mono k10.size;have B10:=B7.trans (k10.mono B7.size);clear h4 hr8 b8 b9 b10 k9 k10 i7 B7 aci hf9;go_wp2_with fail;refine (h5.out w10 x2 c2 i10).mono ?_;rintro e CP ⟨rfl,b11⟩;go_wp2;go_ret;exact ⟨rfl,B10.trans (b11.mono B10.size)⟩
inductive Tm.Qs (rs:aH):List Int→Nat→List Int→Prop where
 | stop {t:List Int} (h:Tm.bn rs t = 0) (hn:(Tm.bD rs t).length = 0):Tm.Qs rs t 0 t
 | go {t x:List Int} {n:Nat} (h:Tm.bn rs t = 0) (hn:0 < (Tm.bD rs t).length) (hr:Tm.Qs rs ((Tm.bD rs t)[0]?.getD (0,0,[])).2.2 n x):Tm.Qs rs t (n+1) x
theorem Tm.VQ {rs:aH}:∀ (f:Nat) (t:List Int) (k:Nat),(Tm.fm rs f t k).2.2 = 0→∃ n,Tm.Qs rs t n (Tm.fm rs f t k).1∧(Tm.fm rs f t k).2.1 = k+n∧n < f:=by
 intro f;induction f with
 | zero=>intro t k h;simp [Tm.fm] at h
 | succ f ih =>
  intro t k h;by_cases he:Tm.bn rs t = 0
  ·by_cases hn:(Tm.bD rs t).length = 0
   ·rw [Tm.Me he hn]
    exact ⟨0,.stop he hn,rfl,by omega⟩
   ·have hp:0 < (Tm.bD rs t).length:=by omega
    rw [Tm.Tn he hp] at h ⊢;obtain ⟨n,h1,h2,h3⟩:=ih _ _ h;exact ⟨n+1,.go he hp h1,by rw [h2];omega,by omega⟩
  ·rw [Tm.Iz he] at h
   exact absurd h he
theorem Tm.TA {rs:aH} {t x:List Int} {n:Nat} (h:Tm.Qs rs t n x):Tm.bn rs x = 0∧(Tm.bD rs x).length = 0:=by
 induction h with
 | stop h hn=>exact ⟨h,hn⟩
 | go _ _ _ ih=>exact ih
theorem Tm.Qt {rs:aH} {t:List Int} (h:(Tm.form rs t).2.2 = 0):∃ n,n≤60∧Tm.Qs rs t n (Tm.form rs t).1∧(Tm.form rs t).2.1 = n:=by
 obtain ⟨n,h1,h2,h3⟩:=Tm.VQ 61 t 0 h;exact ⟨n,by omega,h1,by unfold Tm.form;rw [h2];omega⟩
end Go.Proofs.YtglohanbpjaieaaGreat
