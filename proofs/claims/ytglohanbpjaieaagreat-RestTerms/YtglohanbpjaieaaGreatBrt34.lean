/-
  Parts of the proof: Rst9, PRef4, Rst6.
-/
import Derived.Test.YtglohanbpjaieaaGreatBrt33
import Derived.Deep.RegionHeld3
import Derived.Test.YtglohanbpjaieaaGreatBrt29
import Derived.Test.YtglohanbpjaieaaGreatBrt31
import Derived.Deep.QuietTactic
import Derived.BigQuiet
import Derived.Test.YtglohanbpjaieaaGreatBrt19
import Derived.Test.YtglohanbpjaieaaGreatBrt15
import Derived.Test.YtglohanbpjaieaaGreatBrt22
import Derived.Deep.DrawnRows
namespace Go.Proofs.YtglohanbpjaieaaGreat
open Go.Proofs Go.RowKit Go.Shelf Go.Maps Go.Deep
def D44 (i:Nat):Nat:=cond (Nat.beq i 91) 6 (273+i)
theorem D44_eq (i:Nat):D44 i = if i = 91 then 6 else 273+i:=by
 unfold D44
 by_cases h:i = 91
 ·subst h
  rfl
 ·rw [if_neg h]
  cases hb:Nat.beq i 91
  ·rfl
  ·exact absurd (Nat.eq_of_beq_eq_true hb) h
def V44 (v0 v1 v7 v19 v46 v30 v38 v33 v41 v35 v43 v36 v44:Value) (be oe l2 c2 k4 nL cL nR cR mL dL mR dR:Nat) (aL aR bL bR:Option Addr) (z1 z2 z3 z4:Int) (is:Bool) (i:Nat):Value:=([.bool true,.bool true,.int .i64 z1,.int .i64 z1,.bool true,.bool true,.bool true,.int .i64 z1,.int .i64 z1,.bool true,.bool true,.bool true,.int .i64 z2,v0,v1,.int .i64 z2,.bool true,.bool true,.bool true,.int .i64 z3,.int .i64 z3,.bool true,.bool true,.bool true,.int .i64 z3,.int .i64 z3,.bool true,.bool true,.bool true,.int .i64 z4,.int .i64 z4,.bool true,.bool true,.bool true,.int .i64 z4,.int .i64 z4,.bool true,.bool true,.bool true,v1,v7,.bool true,.bool true,.bool true,.slice (some ⟨be,oe,none⟩) l2 c2,.pointer (some ⟨be,oe,none⟩),.pointer (some ⟨be,oe,none⟩),.slice aL nL cL,.pointer (some ⟨k4,0,none⟩),.slice bL mL dL,.bool true,.bool true,.bool true,.slice (some ⟨be,oe,none⟩) l2 c2,.pointer (some ⟨be,oe,none⟩),.pointer (some ⟨be,oe+1,none⟩),.slice aR nR cR,.pointer (some ⟨k4,0+1,none⟩),.slice bR mR dR,.bool true,.bool true,.bool true,v30,v38,.bool true,.bool true,.bool true,v33,v41,.bool true,.bool true,.bool true,v35,v43,.bool true,.bool true,.bool true,v36,v44,.bool true,.bool true,.bool true,.bool is,.bool is,.bool true,.bool true,.bool true,v19,v46,.bool true,.bool true,.bool true]:List Value)[i]?.getD undef
set_option maxRecDepth 100000 in
set_option maxHeartbeats 4000000 in
theorem rt21 {w W:World} {A:Act} (hsz:A.tmps.size = 364) (hdf:A.defers = []) {v0 v1 v7 v19 v46 v30 v38 v33 v41 v35 v43 v36 v44:Value} {be oe l2 c2 k4 nL cL nR cR mL dL mR dR:Nat} {aL aR bL bR:Option Addr} {z1 z2 z3 z4:Int} {is:Bool} (hl2:0 < l2)
 (h0:A.tmps.getD 0 undef = v0) (h1:A.tmps.getD 1 undef = v1) (h2:A.tmps.getD 2 undef = .slice (some ⟨be,oe,none⟩) l2 c2) (h7:A.tmps.getD 7 undef = v7) (h8:A.tmps.getD 8 undef = .pointer (some ⟨k4,0,none⟩)) (h11:A.tmps.getD 11 undef = .int .i64 z1) (h13:A.tmps.getD 13 undef = .int .i64 z2) (h15:A.tmps.getD 15 undef = .int .i64 z3) (h18:A.tmps.getD 18 undef = .int .i64 z4) (h19:A.tmps.getD 19 undef = v19) (h20:A.tmps.getD 20 undef = .bool is) (h30:A.tmps.getD 30 undef = v30) (h32:A.tmps.getD 32 undef = .int .i64 z1) (h33:A.tmps.getD 33 undef = v33) (h34:A.tmps.getD 34 undef = .int .i64 z3) (h35:A.tmps.getD 35 undef = v35) (h36:A.tmps.getD 36 undef = v36) (h37:A.tmps.getD 37 undef = .int .i64 z4) (h38:A.tmps.getD 38 undef = v38) (h40:A.tmps.getD 40 undef = .int .i64 z1) (h41:A.tmps.getD 41 undef = v41) (h42:A.tmps.getD 42 undef = .int .i64 z3) (h43:A.tmps.getD 43 undef = v43) (h44:A.tmps.getD 44 undef = v44) (h45:A.tmps.getD 45 undef = .int .i64 z4) (h46:A.tmps.getD 46 undef = v46) (h47:A.tmps.getD 47 undef = .bool is)
 (hc:∀ V,Below W.heap.size W V→V.cell? ⟨be,oe,none⟩ = some (.slice aL nL cL)∧V.cell? ⟨be,oe+1,none⟩ = some (.slice aR nR cR)∧V.cell? ⟨k4,0,none⟩ = some (.slice bL mL dL)∧V.cell? ⟨k4,0+1,none⟩ = some (.slice bR mR dR))
 (q1:∀ V,Below W.heap.size W V→Calls Tryz.prog 16 #[] V fun e w'=>e = .returned (.bool true)∧Below W.heap.size W w')
 (q2:∀ V,Below W.heap.size W V→Calls Tryz.prog 24 #[v0,v1] V fun e w'=>e = .returned (.int .i64 z2)∧Below W.heap.size W w')
 (q3:∀ V,Below W.heap.size W V→Calls Tryz.prog 25 #[v1,v7] V fun e w'=>e = .returned (.bool true)∧Below W.heap.size W w')
 (q4:∀ V,Below W.heap.size W V→Calls Tryz.prog 25 #[.slice aL nL cL,.slice bL mL dL] V fun e w'=>e = .returned (.bool true)∧Below W.heap.size W w')
 (q5:∀ V,Below W.heap.size W V→Calls Tryz.prog 25 #[.slice aR nR cR,.slice bR mR dR] V fun e w'=>e = .returned (.bool true)∧Below W.heap.size W w')
 (q6:∀ V,Below W.heap.size W V→Calls Tryz.prog 25 #[v30,v38] V fun e w'=>e = .returned (.bool true)∧Below W.heap.size W w')
 (q7:∀ V,Below W.heap.size W V→Calls Tryz.prog 10 #[v33,v41] V fun e w'=>e = .returned (.bool true)∧Below W.heap.size W w')
 (q8:∀ V,Below W.heap.size W V→Calls Tryz.prog 9 #[v35,v43] V fun e w'=>e = .returned (.bool true)∧Below W.heap.size W w')
 (q9:∀ V,Below W.heap.size W V→Calls Tryz.prog 10 #[v36,v44] V fun e w'=>e = .returned (.bool true)∧Below W.heap.size W w')
 (q10:∀ V,Below W.heap.size W V→Calls Tryz.prog 26 #[v19,v46] V fun e w'=>e = .returned (.bool true)∧Below W.heap.size W w')
 (hB:Below w.heap.size w W) :
 Code.wp Tryz.prog (spine 21 (Tryz.f5.body.getD .skip)) (bodyPost Tryz.prog Tryz.f5 fun e w'=>e = .returned (.bool true)∧Below w.heap.size w w') A W:=by
 rw [fr_of hsz hdf]
 obtain ⟨f,hf⟩:∃ f,(fun i=>A.tmps.getD i undef) = f:=⟨_,rfl⟩
 replace h0:f 0 = v0:=by rw [← hf];exact h0
 replace h1:f 1 = v1:=by rw [← hf];exact h1
 replace h2:f 2 = .slice (some ⟨be,oe,none⟩) l2 c2:=by rw [← hf];exact h2
 replace h7:f 7 = v7:=by rw [← hf];exact h7
 replace h8:f 8 = .pointer (some ⟨k4,0,none⟩):=by rw [← hf];exact h8
 replace h11:f 11 = .int .i64 z1:=by rw [← hf];exact h11
 replace h13:f 13 = .int .i64 z2:=by rw [← hf];exact h13
 replace h15:f 15 = .int .i64 z3:=by rw [← hf];exact h15
 replace h18:f 18 = .int .i64 z4:=by rw [← hf];exact h18
 replace h19:f 19 = v19:=by rw [← hf];exact h19
 replace h20:f 20 = .bool is:=by rw [← hf];exact h20
 replace h30:f 30 = v30:=by rw [← hf];exact h30
 replace h32:f 32 = .int .i64 z1:=by rw [← hf];exact h32
 replace h33:f 33 = v33:=by rw [← hf];exact h33
 replace h34:f 34 = .int .i64 z3:=by rw [← hf];exact h34
 replace h35:f 35 = v35:=by rw [← hf];exact h35
 replace h36:f 36 = v36:=by rw [← hf];exact h36
 replace h37:f 37 = .int .i64 z4:=by rw [← hf];exact h37
 replace h38:f 38 = v38:=by rw [← hf];exact h38
 replace h40:f 40 = .int .i64 z1:=by rw [← hf];exact h40
 replace h41:f 41 = v41:=by rw [← hf];exact h41
 replace h42:f 42 = .int .i64 z3:=by rw [← hf];exact h42
 replace h43:f 43 = v43:=by rw [← hf];exact h43
 replace h44:f 44 = v44:=by rw [← hf];exact h44
 replace h45:f 45 = .int .i64 z4:=by rw [← hf];exact h45
 replace h46:f 46 = v46:=by rw [← hf];exact h46
 replace h47:f 47 = .bool is:=by rw [← hf];exact h47
 rw [hf]
 clear hf hsz hdf A
 conv=>arg 2;whnf
 apply wp_seq_k
 intro Kn hKn
 have hR:∀ c a d v x,Exit.then Kn (bodyPost Tryz.prog Tryz.f5 fun e w'=>e = .returned (.bool true)∧Below w.heap.size w w') (.panic c) (Act.put a d v) x→Exit.then Kn (bodyPost Tryz.prog Tryz.f5 fun e w'=>e = .returned (.bool true)∧Below w.heap.size w w') (.panic c) a x:=by
  intro c a d v x h
  cases d <;> exact h
 refine wp_region_held_drew (S:=fun V=>Below W.heap.size W V) (by kernel_rfl) (below_drewN (Below.refl _ W) 1) fun hS=>?_
 refine table_region 364 92 D44 (V44 v0 v1 v7 v19 v46 v30 v38 v33 v41 v35 v43 v36 v44 be oe l2 c2 k4 nL cL nR cR mL dL mR dR aL aR bL bR z1 z2 z3 z4 is) f (fun s=>s < 273∧s≠6) (by kernel_rfl) (by kernel_rfl) (fun i j hi hj e=>?_) (fun s hs i hi e=>?_) ?_ (fun f x hS hx hd=>?_) _ hS
 ·rw [D44_eq,D44_eq] at e
  split at e <;> split at e <;> omega
 ·rw [D44_eq] at e
  have h1:=hs.1
  have h2:=hs.2
  split at e <;> omega
 ·refine lt_snoc (lt_snoc (lt_snoc (lt_snoc (lt_snoc (lt_snoc (lt_snoc (lt_snoc (lt_snoc (lt_snoc (lt_snoc (lt_snoc (lt_snoc (lt_snoc (lt_snoc (lt_snoc (lt_snoc (lt_snoc (lt_snoc (lt_snoc (lt_snoc (lt_snoc (lt_snoc (lt_snoc (lt_snoc (lt_snoc (lt_snoc (lt_snoc (lt_snoc (lt_snoc (lt_snoc (lt_snoc (lt_snoc (lt_snoc (lt_snoc (lt_snoc (lt_snoc (lt_snoc (lt_snoc (lt_snoc (lt_snoc (lt_snoc (lt_snoc (lt_snoc (lt_snoc (lt_snoc (lt_snoc (lt_snoc (lt_snoc (lt_snoc (lt_snoc (lt_snoc (lt_snoc (lt_snoc (lt_snoc (lt_snoc (lt_snoc (lt_snoc (lt_snoc (lt_snoc (lt_snoc (lt_snoc (lt_snoc (lt_snoc (lt_snoc (lt_snoc (lt_snoc (lt_snoc (lt_snoc (lt_snoc (lt_snoc (lt_snoc (lt_snoc (lt_snoc (lt_snoc (lt_snoc (lt_snoc (lt_snoc (lt_snoc (lt_snoc (lt_snoc (lt_snoc (lt_snoc (lt_snoc (lt_snoc (lt_snoc (lt_snoc (lt_snoc (lt_snoc (lt_snoc (lt_snoc (lt_snoc (fun _ h=>absurd h (Nat.not_lt_zero _)) ?_) ?_) ?_) ?_) ?_) ?_) ?_) ?_) ?_) ?_) ?_) ?_) ?_) ?_) ?_) ?_) ?_) ?_) ?_) ?_) ?_) ?_) ?_) ?_) ?_) ?_) ?_) ?_) ?_) ?_) ?_) ?_) ?_) ?_) ?_) ?_) ?_) ?_) ?_) ?_) ?_) ?_) ?_) ?_) ?_) ?_) ?_) ?_) ?_) ?_) ?_) ?_) ?_) ?_) ?_) ?_) ?_) ?_) ?_) ?_) ?_) ?_) ?_) ?_) ?_) ?_) ?_) ?_) ?_) ?_) ?_) ?_) ?_) ?_) ?_) ?_) ?_) ?_) ?_) ?_) ?_) ?_) ?_) ?_) ?_) ?_) ?_) ?_) ?_) ?_) ?_) ?_
  ·intro f x hS hx hd
   exact do_call (by rfl) (w_none (by rfl)) (e_call0 Tryz.func16 (by kernel_rfl) (by kernel_rfl)) (q1 _ hS)
  ·intro f x hS hx hd
   have hx273:=dep_of hd (by rfl) 0 (by rfl)
   replace hx273:f 273 = .bool true:=hx273
   exact do_take (by rfl) (y_move (x:=273) (w_none (by rfl)) (by rfl) (by decide) hx273) hS
  ·intro f x hS hx hd
   have hx11:f 11 = .int .i64 z1:=(hx 11 (by decide)).trans h11
   have hx274:=dep_of hd (by rfl) 1 (by rfl)
   replace hx274:f 274 = .bool true:=hx274
   exact do_take (by rfl) (y_move (x:=11) (w_some (d:=274) (by rfl) (by rfl) (by decide) hx274) (by rfl) (by decide) hx11) hS
  ·intro f x hS hx hd
   have hx32:f 32 = .int .i64 z1:=(hx 32 (by decide)).trans h32
   have hx274:=dep_of hd (by rfl) 1 (by rfl)
   replace hx274:f 274 = .bool true:=hx274
   exact do_take (by rfl) (y_move (x:=32) (w_some (d:=274) (by rfl) (by rfl) (by decide) hx274) (by rfl) (by decide) hx32) hS
  ·intro f x hS hx hd
   have hx274:=dep_of hd (by rfl) 1 (by rfl)
   replace hx274:f 274 = .bool true:=hx274
   have hx275:=dep_of hd (by rfl) 2 (by rfl)
   replace hx275:f 275 = .int .i64 z1:=hx275
   have hx276:=dep_of hd (by rfl) 3 (by rfl)
   replace hx276:f 276 = .int .i64 z1:=hx276
   exact do_take (by rfl) (y_eqi (x:=275) (y:=276) (z:=z1) (w_some (d:=274) (by rfl) (by rfl) (by decide) hx274) (by rfl) (by decide) (by decide) hx275 hx276) hS
  ·intro f x hS hx hd
   have hx274:=dep_of hd (by rfl) 1 (by rfl)
   replace hx274:f 274 = .bool true:=hx274
   have hx277:=dep_of hd (by rfl) 4 (by rfl)
   replace hx277:f 277 = .bool true:=hx277
   exact do_take (by rfl) (y_pick (x:=274) (y:=277) (w_none (by rfl)) (by rfl) (by decide) (by decide) hx274 hx277) hS
  ·intro f x hS hx hd
   have hx278:=dep_of hd (by rfl) 5 (by rfl)
   replace hx278:f 278 = .bool true:=hx278
   exact do_take (by rfl) (y_move (x:=278) (w_none (by rfl)) (by rfl) (by decide) hx278) hS
  ·intro f x hS hx hd
   have hx32:f 32 = .int .i64 z1:=(hx 32 (by decide)).trans h32
   have hx279:=dep_of hd (by rfl) 6 (by rfl)
   replace hx279:f 279 = .bool true:=hx279
   exact do_take (by rfl) (y_move (x:=32) (w_some (d:=279) (by rfl) (by rfl) (by decide) hx279) (by rfl) (by decide) hx32) hS
  ·intro f x hS hx hd
   have hx40:f 40 = .int .i64 z1:=(hx 40 (by decide)).trans h40
   have hx279:=dep_of hd (by rfl) 6 (by rfl)
   replace hx279:f 279 = .bool true:=hx279
   exact do_take (by rfl) (y_move (x:=40) (w_some (d:=279) (by rfl) (by rfl) (by decide) hx279) (by rfl) (by decide) hx40) hS
  ·intro f x hS hx hd
   have hx279:=dep_of hd (by rfl) 6 (by rfl)
   replace hx279:f 279 = .bool true:=hx279
   have hx280:=dep_of hd (by rfl) 7 (by rfl)
   replace hx280:f 280 = .int .i64 z1:=hx280
   have hx281:=dep_of hd (by rfl) 8 (by rfl)
   replace hx281:f 281 = .int .i64 z1:=hx281
   exact do_take (by rfl) (y_eqi (x:=280) (y:=281) (z:=z1) (w_some (d:=279) (by rfl) (by rfl) (by decide) hx279) (by rfl) (by decide) (by decide) hx280 hx281) hS
  ·intro f x hS hx hd
   have hx279:=dep_of hd (by rfl) 6 (by rfl)
   replace hx279:f 279 = .bool true:=hx279
   have hx282:=dep_of hd (by rfl) 9 (by rfl)
   replace hx282:f 282 = .bool true:=hx282
   exact do_take (by rfl) (y_pick (x:=279) (y:=282) (w_none (by rfl)) (by rfl) (by decide) (by decide) hx279 hx282) hS
  ·intro f x hS hx hd
   have hx283:=dep_of hd (by rfl) 10 (by rfl)
   replace hx283:f 283 = .bool true:=hx283
   exact do_take (by rfl) (y_move (x:=283) (w_none (by rfl)) (by rfl) (by decide) hx283) hS
  ·intro f x hS hx hd
   have hx13:f 13 = .int .i64 z2:=(hx 13 (by decide)).trans h13
   have hx284:=dep_of hd (by rfl) 11 (by rfl)
   replace hx284:f 284 = .bool true:=hx284
   exact do_take (by rfl) (y_move (x:=13) (w_some (d:=284) (by rfl) (by rfl) (by decide) hx284) (by rfl) (by decide) hx13) hS
  ·intro f x hS hx hd
   have hx0:f 0 = v0:=(hx 0 (by decide)).trans h0
   have hx284:=dep_of hd (by rfl) 11 (by rfl)
   replace hx284:f 284 = .bool true:=hx284
   exact do_take (by rfl) (y_move (x:=0) (w_some (d:=284) (by rfl) (by rfl) (by decide) hx284) (by rfl) (by decide) hx0) hS
  ·intro f x hS hx hd
   have hx1:f 1 = v1:=(hx 1 (by decide)).trans h1
   have hx284:=dep_of hd (by rfl) 11 (by rfl)
   replace hx284:f 284 = .bool true:=hx284
   exact do_take (by rfl) (y_move (x:=1) (w_some (d:=284) (by rfl) (by rfl) (by decide) hx284) (by rfl) (by decide) hx1) hS
  ·intro f x hS hx hd
   have hx284:=dep_of hd (by rfl) 11 (by rfl)
   replace hx284:f 284 = .bool true:=hx284
   have hx286:=dep_of hd (by rfl) 13 (by rfl)
   replace hx286:f 286 = v0:=hx286
   have hx287:=dep_of hd (by rfl) 14 (by rfl)
   replace hx287:f 287 = v1:=hx287
   exact do_call (by rfl) (w_some (d:=284) (by rfl) (by rfl) (by decide) hx284) (e_call2 (x:=286) (y:=287) Tryz.func24 (by kernel_rfl) (by kernel_rfl) (by decide) (by decide) hx286 hx287) (q2 _ hS)
  ·intro f x hS hx hd
   have hx284:=dep_of hd (by rfl) 11 (by rfl)
   replace hx284:f 284 = .bool true:=hx284
   have hx285:=dep_of hd (by rfl) 12 (by rfl)
   replace hx285:f 285 = .int .i64 z2:=hx285
   have hx288:=dep_of hd (by rfl) 15 (by rfl)
   replace hx288:f 288 = .int .i64 z2:=hx288
   exact do_take (by rfl) (y_eqi (x:=285) (y:=288) (z:=z2) (w_some (d:=284) (by rfl) (by rfl) (by decide) hx284) (by rfl) (by decide) (by decide) hx285 hx288) hS
  ·intro f x hS hx hd
   have hx284:=dep_of hd (by rfl) 11 (by rfl)
   replace hx284:f 284 = .bool true:=hx284
   have hx289:=dep_of hd (by rfl) 16 (by rfl)
   replace hx289:f 289 = .bool true:=hx289
   exact do_take (by rfl) (y_pick (x:=284) (y:=289) (w_none (by rfl)) (by rfl) (by decide) (by decide) hx284 hx289) hS
  ·intro f x hS hx hd
   have hx290:=dep_of hd (by rfl) 17 (by rfl)
   replace hx290:f 290 = .bool true:=hx290
   exact do_take (by rfl) (y_move (x:=290) (w_none (by rfl)) (by rfl) (by decide) hx290) hS
  ·intro f x hS hx hd
   have hx15:f 15 = .int .i64 z3:=(hx 15 (by decide)).trans h15
   have hx291:=dep_of hd (by rfl) 18 (by rfl)
   replace hx291:f 291 = .bool true:=hx291
   exact do_take (by rfl) (y_move (x:=15) (w_some (d:=291) (by rfl) (by rfl) (by decide) hx291) (by rfl) (by decide) hx15) hS
  ·intro f x hS hx hd
   have hx34:f 34 = .int .i64 z3:=(hx 34 (by decide)).trans h34
   have hx291:=dep_of hd (by rfl) 18 (by rfl)
   replace hx291:f 291 = .bool true:=hx291
   exact do_take (by rfl) (y_move (x:=34) (w_some (d:=291) (by rfl) (by rfl) (by decide) hx291) (by rfl) (by decide) hx34) hS
  ·intro f x hS hx hd
   have hx291:=dep_of hd (by rfl) 18 (by rfl)
   replace hx291:f 291 = .bool true:=hx291
   have hx292:=dep_of hd (by rfl) 19 (by rfl)
   replace hx292:f 292 = .int .i64 z3:=hx292
   have hx293:=dep_of hd (by rfl) 20 (by rfl)
   replace hx293:f 293 = .int .i64 z3:=hx293
   exact do_take (by rfl) (y_eqi (x:=292) (y:=293) (z:=z3) (w_some (d:=291) (by rfl) (by rfl) (by decide) hx291) (by rfl) (by decide) (by decide) hx292 hx293) hS
  ·intro f x hS hx hd
   have hx291:=dep_of hd (by rfl) 18 (by rfl)
   replace hx291:f 291 = .bool true:=hx291
   have hx294:=dep_of hd (by rfl) 21 (by rfl)
   replace hx294:f 294 = .bool true:=hx294
   exact do_take (by rfl) (y_pick (x:=291) (y:=294) (w_none (by rfl)) (by rfl) (by decide) (by decide) hx291 hx294) hS
  ·intro f x hS hx hd
   have hx295:=dep_of hd (by rfl) 22 (by rfl)
   replace hx295:f 295 = .bool true:=hx295
   exact do_take (by rfl) (y_move (x:=295) (w_none (by rfl)) (by rfl) (by decide) hx295) hS
  ·intro f x hS hx hd
   have hx34:f 34 = .int .i64 z3:=(hx 34 (by decide)).trans h34
   have hx296:=dep_of hd (by rfl) 23 (by rfl)
   replace hx296:f 296 = .bool true:=hx296
   exact do_take (by rfl) (y_move (x:=34) (w_some (d:=296) (by rfl) (by rfl) (by decide) hx296) (by rfl) (by decide) hx34) hS
  ·intro f x hS hx hd
   have hx42:f 42 = .int .i64 z3:=(hx 42 (by decide)).trans h42
   have hx296:=dep_of hd (by rfl) 23 (by rfl)
   replace hx296:f 296 = .bool true:=hx296
   exact do_take (by rfl) (y_move (x:=42) (w_some (d:=296) (by rfl) (by rfl) (by decide) hx296) (by rfl) (by decide) hx42) hS
  ·intro f x hS hx hd
   have hx296:=dep_of hd (by rfl) 23 (by rfl)
   replace hx296:f 296 = .bool true:=hx296
   have hx297:=dep_of hd (by rfl) 24 (by rfl)
   replace hx297:f 297 = .int .i64 z3:=hx297
   have hx298:=dep_of hd (by rfl) 25 (by rfl)
   replace hx298:f 298 = .int .i64 z3:=hx298
   exact do_take (by rfl) (y_eqi (x:=297) (y:=298) (z:=z3) (w_some (d:=296) (by rfl) (by rfl) (by decide) hx296) (by rfl) (by decide) (by decide) hx297 hx298) hS
  ·intro f x hS hx hd
   have hx296:=dep_of hd (by rfl) 23 (by rfl)
   replace hx296:f 296 = .bool true:=hx296
   have hx299:=dep_of hd (by rfl) 26 (by rfl)
   replace hx299:f 299 = .bool true:=hx299
   exact do_take (by rfl) (y_pick (x:=296) (y:=299) (w_none (by rfl)) (by rfl) (by decide) (by decide) hx296 hx299) hS
  ·intro f x hS hx hd
   have hx300:=dep_of hd (by rfl) 27 (by rfl)
   replace hx300:f 300 = .bool true:=hx300
   exact do_take (by rfl) (y_move (x:=300) (w_none (by rfl)) (by rfl) (by decide) hx300) hS
  ·intro f x hS hx hd
   have hx18:f 18 = .int .i64 z4:=(hx 18 (by decide)).trans h18
   have hx301:=dep_of hd (by rfl) 28 (by rfl)
   replace hx301:f 301 = .bool true:=hx301
   exact do_take (by rfl) (y_move (x:=18) (w_some (d:=301) (by rfl) (by rfl) (by decide) hx301) (by rfl) (by decide) hx18) hS
  ·intro f x hS hx hd
   have hx37:f 37 = .int .i64 z4:=(hx 37 (by decide)).trans h37
   have hx301:=dep_of hd (by rfl) 28 (by rfl)
   replace hx301:f 301 = .bool true:=hx301
   exact do_take (by rfl) (y_move (x:=37) (w_some (d:=301) (by rfl) (by rfl) (by decide) hx301) (by rfl) (by decide) hx37) hS
  ·intro f x hS hx hd
   have hx301:=dep_of hd (by rfl) 28 (by rfl)
   replace hx301:f 301 = .bool true:=hx301
   have hx302:=dep_of hd (by rfl) 29 (by rfl)
   replace hx302:f 302 = .int .i64 z4:=hx302
   have hx303:=dep_of hd (by rfl) 30 (by rfl)
   replace hx303:f 303 = .int .i64 z4:=hx303
   exact do_take (by rfl) (y_eqi (x:=302) (y:=303) (z:=z4) (w_some (d:=301) (by rfl) (by rfl) (by decide) hx301) (by rfl) (by decide) (by decide) hx302 hx303) hS
  ·intro f x hS hx hd
   have hx301:=dep_of hd (by rfl) 28 (by rfl)
   replace hx301:f 301 = .bool true:=hx301
   have hx304:=dep_of hd (by rfl) 31 (by rfl)
   replace hx304:f 304 = .bool true:=hx304
   exact do_take (by rfl) (y_pick (x:=301) (y:=304) (w_none (by rfl)) (by rfl) (by decide) (by decide) hx301 hx304) hS
  ·intro f x hS hx hd
   have hx305:=dep_of hd (by rfl) 32 (by rfl)
   replace hx305:f 305 = .bool true:=hx305
   exact do_take (by rfl) (y_move (x:=305) (w_none (by rfl)) (by rfl) (by decide) hx305) hS
  ·intro f x hS hx hd
   have hx37:f 37 = .int .i64 z4:=(hx 37 (by decide)).trans h37
   have hx306:=dep_of hd (by rfl) 33 (by rfl)
   replace hx306:f 306 = .bool true:=hx306
   exact do_take (by rfl) (y_move (x:=37) (w_some (d:=306) (by rfl) (by rfl) (by decide) hx306) (by rfl) (by decide) hx37) hS
  ·intro f x hS hx hd
   have hx45:f 45 = .int .i64 z4:=(hx 45 (by decide)).trans h45
   have hx306:=dep_of hd (by rfl) 33 (by rfl)
   replace hx306:f 306 = .bool true:=hx306
   exact do_take (by rfl) (y_move (x:=45) (w_some (d:=306) (by rfl) (by rfl) (by decide) hx306) (by rfl) (by decide) hx45) hS
  ·intro f x hS hx hd
   have hx306:=dep_of hd (by rfl) 33 (by rfl)
   replace hx306:f 306 = .bool true:=hx306
   have hx307:=dep_of hd (by rfl) 34 (by rfl)
   replace hx307:f 307 = .int .i64 z4:=hx307
   have hx308:=dep_of hd (by rfl) 35 (by rfl)
   replace hx308:f 308 = .int .i64 z4:=hx308
   exact do_take (by rfl) (y_eqi (x:=307) (y:=308) (z:=z4) (w_some (d:=306) (by rfl) (by rfl) (by decide) hx306) (by rfl) (by decide) (by decide) hx307 hx308) hS
  ·intro f x hS hx hd
   have hx306:=dep_of hd (by rfl) 33 (by rfl)
   replace hx306:f 306 = .bool true:=hx306
   have hx309:=dep_of hd (by rfl) 36 (by rfl)
   replace hx309:f 309 = .bool true:=hx309
   exact do_take (by rfl) (y_pick (x:=306) (y:=309) (w_none (by rfl)) (by rfl) (by decide) (by decide) hx306 hx309) hS
  ·intro f x hS hx hd
   have hx310:=dep_of hd (by rfl) 37 (by rfl)
   replace hx310:f 310 = .bool true:=hx310
   exact do_take (by rfl) (y_move (x:=310) (w_none (by rfl)) (by rfl) (by decide) hx310) hS
  ·intro f x hS hx hd
   have hx1:f 1 = v1:=(hx 1 (by decide)).trans h1
   have hx311:=dep_of hd (by rfl) 38 (by rfl)
   replace hx311:f 311 = .bool true:=hx311
   exact do_take (by rfl) (y_move (x:=1) (w_some (d:=311) (by rfl) (by rfl) (by decide) hx311) (by rfl) (by decide) hx1) hS
  ·intro f x hS hx hd
   have hx7:f 7 = v7:=(hx 7 (by decide)).trans h7
   have hx311:=dep_of hd (by rfl) 38 (by rfl)
   replace hx311:f 311 = .bool true:=hx311
   exact do_take (by rfl) (y_move (x:=7) (w_some (d:=311) (by rfl) (by rfl) (by decide) hx311) (by rfl) (by decide) hx7) hS
  ·intro f x hS hx hd
   have hx311:=dep_of hd (by rfl) 38 (by rfl)
   replace hx311:f 311 = .bool true:=hx311
   have hx312:=dep_of hd (by rfl) 39 (by rfl)
   replace hx312:f 312 = v1:=hx312
   have hx313:=dep_of hd (by rfl) 40 (by rfl)
   replace hx313:f 313 = v7:=hx313
   exact do_call (by rfl) (w_some (d:=311) (by rfl) (by rfl) (by decide) hx311) (e_call2 (x:=312) (y:=313) Tryz.func25 (by kernel_rfl) (by kernel_rfl) (by decide) (by decide) hx312 hx313) (q3 _ hS)
  ·intro f x hS hx hd
   have hx311:=dep_of hd (by rfl) 38 (by rfl)
   replace hx311:f 311 = .bool true:=hx311
   have hx314:=dep_of hd (by rfl) 41 (by rfl)
   replace hx314:f 314 = .bool true:=hx314
   exact do_take (by rfl) (y_pick (x:=311) (y:=314) (w_none (by rfl)) (by rfl) (by decide) (by decide) hx311 hx314) hS
  ·intro f x hS hx hd
   have hx315:=dep_of hd (by rfl) 42 (by rfl)
   replace hx315:f 315 = .bool true:=hx315
   exact do_take (by rfl) (y_move (x:=315) (w_none (by rfl)) (by rfl) (by decide) hx315) hS
  ·intro f x hS hx hd
   have hx2:f 2 = .slice (some ⟨be,oe,none⟩) l2 c2:=(hx 2 (by decide)).trans h2
   have hx316:=dep_of hd (by rfl) 43 (by rfl)
   replace hx316:f 316 = .bool true:=hx316
   exact do_take (by rfl) (y_move (x:=2) (w_some (d:=316) (by rfl) (by rfl) (by decide) hx316) (by rfl) (by decide) hx2) hS
  ·intro f x hS hx hd
   have hx316:=dep_of hd (by rfl) 43 (by rfl)
   replace hx316:f 316 = .bool true:=hx316
   have hx317:=dep_of hd (by rfl) 44 (by rfl)
   replace hx317:f 317 = .slice (some ⟨be,oe,none⟩) l2 c2:=hx317
   exact do_take (by rfl) (y_index (x:=317) (l:=l2) (c:=c2) (w_some (d:=316) (by rfl) (by rfl) (by decide) hx316) (by rfl) (by decide) hx317 hl2) hS
  ·intro f x hS hx hd
   have hx316:=dep_of hd (by rfl) 43 (by rfl)
   replace hx316:f 316 = .bool true:=hx316
   have hx318:=dep_of hd (by rfl) 45 (by rfl)
   replace hx318:f 318 = .pointer (some ⟨be,oe,none⟩):=hx318
   exact do_take (by rfl) (y_field0 (x:=318) (b:=be) (off:=oe) (w_some (d:=316) (by rfl) (by rfl) (by decide) hx316) (by rfl) (by decide) hx318) hS
  ·intro f x hS hx hd
   have hx316:=dep_of hd (by rfl) 43 (by rfl)
   replace hx316:f 316 = .bool true:=hx316
   have hx319:=dep_of hd (by rfl) 46 (by rfl)
   replace hx319:f 319 = .pointer (some ⟨be,oe,none⟩):=hx319
   exact do_take (by rfl) (y_load (x:=319) (ad:=⟨be,oe,none⟩) (w_some (d:=316) (by rfl) (by rfl) (by decide) hx316) (by rfl) (by decide) hx319 fun V hV=>(hc V hV).1) hS
  ·intro f x hS hx hd
   have hx8:f 8 = .pointer (some ⟨k4,0,none⟩):=(hx 8 (by decide)).trans h8
   have hx316:=dep_of hd (by rfl) 43 (by rfl)
   replace hx316:f 316 = .bool true:=hx316
   exact do_take (by rfl) (y_field0 (x:=8) (b:=k4) (off:=0) (w_some (d:=316) (by rfl) (by rfl) (by decide) hx316) (by rfl) (by decide) hx8) hS
  ·intro f x hS hx hd
   have hx316:=dep_of hd (by rfl) 43 (by rfl)
   replace hx316:f 316 = .bool true:=hx316
   have hx321:=dep_of hd (by rfl) 48 (by rfl)
   replace hx321:f 321 = .pointer (some ⟨k4,0,none⟩):=hx321
   exact do_take (by rfl) (y_load (x:=321) (ad:=⟨k4,0,none⟩) (w_some (d:=316) (by rfl) (by rfl) (by decide) hx316) (by rfl) (by decide) hx321 fun V hV=>(hc V hV).2.2.1) hS
  ·intro f x hS hx hd
   have hx316:=dep_of hd (by rfl) 43 (by rfl)
   replace hx316:f 316 = .bool true:=hx316
   have hx320:=dep_of hd (by rfl) 47 (by rfl)
   replace hx320:f 320 = .slice aL nL cL:=hx320
   have hx322:=dep_of hd (by rfl) 49 (by rfl)
   replace hx322:f 322 = .slice bL mL dL:=hx322
   exact do_call (by rfl) (w_some (d:=316) (by rfl) (by rfl) (by decide) hx316) (e_call2 (x:=320) (y:=322) Tryz.func25 (by kernel_rfl) (by kernel_rfl) (by decide) (by decide) hx320 hx322) (q4 _ hS)
  ·intro f x hS hx hd
   have hx316:=dep_of hd (by rfl) 43 (by rfl)
   replace hx316:f 316 = .bool true:=hx316
   have hx323:=dep_of hd (by rfl) 50 (by rfl)
   replace hx323:f 323 = .bool true:=hx323
   exact do_take (by rfl) (y_pick (x:=316) (y:=323) (w_none (by rfl)) (by rfl) (by decide) (by decide) hx316 hx323) hS
  ·intro f x hS hx hd
   have hx324:=dep_of hd (by rfl) 51 (by rfl)
   replace hx324:f 324 = .bool true:=hx324
   exact do_take (by rfl) (y_move (x:=324) (w_none (by rfl)) (by rfl) (by decide) hx324) hS
  ·intro f x hS hx hd
   have hx2:f 2 = .slice (some ⟨be,oe,none⟩) l2 c2:=(hx 2 (by decide)).trans h2
   have hx325:=dep_of hd (by rfl) 52 (by rfl)
   replace hx325:f 325 = .bool true:=hx325
   exact do_take (by rfl) (y_move (x:=2) (w_some (d:=325) (by rfl) (by rfl) (by decide) hx325) (by rfl) (by decide) hx2) hS
  ·intro f x hS hx hd
   have hx325:=dep_of hd (by rfl) 52 (by rfl)
   replace hx325:f 325 = .bool true:=hx325
   have hx326:=dep_of hd (by rfl) 53 (by rfl)
   replace hx326:f 326 = .slice (some ⟨be,oe,none⟩) l2 c2:=hx326
   exact do_take (by rfl) (y_index (x:=326) (l:=l2) (c:=c2) (w_some (d:=325) (by rfl) (by rfl) (by decide) hx325) (by rfl) (by decide) hx326 hl2) hS
  ·intro f x hS hx hd
   have hx325:=dep_of hd (by rfl) 52 (by rfl)
   replace hx325:f 325 = .bool true:=hx325
   have hx327:=dep_of hd (by rfl) 54 (by rfl)
   replace hx327:f 327 = .pointer (some ⟨be,oe,none⟩):=hx327
   exact do_take (by rfl) (y_field1 (x:=327) (b:=be) (off:=oe) (w_some (d:=325) (by rfl) (by rfl) (by decide) hx325) (by rfl) (by decide) hx327) hS
  ·intro f x hS hx hd
   have hx325:=dep_of hd (by rfl) 52 (by rfl)
   replace hx325:f 325 = .bool true:=hx325
   have hx328:=dep_of hd (by rfl) 55 (by rfl)
   replace hx328:f 328 = .pointer (some ⟨be,oe+1,none⟩):=hx328
   exact do_take (by rfl) (y_load (x:=328) (ad:=⟨be,oe+1,none⟩) (w_some (d:=325) (by rfl) (by rfl) (by decide) hx325) (by rfl) (by decide) hx328 fun V hV=>(hc V hV).2.1) hS
  ·intro f x hS hx hd
   have hx8:f 8 = .pointer (some ⟨k4,0,none⟩):=(hx 8 (by decide)).trans h8
   have hx325:=dep_of hd (by rfl) 52 (by rfl)
   replace hx325:f 325 = .bool true:=hx325
   exact do_take (by rfl) (y_field1 (x:=8) (b:=k4) (off:=0) (w_some (d:=325) (by rfl) (by rfl) (by decide) hx325) (by rfl) (by decide) hx8) hS
  ·intro f x hS hx hd
   have hx325:=dep_of hd (by rfl) 52 (by rfl)
   replace hx325:f 325 = .bool true:=hx325
   have hx330:=dep_of hd (by rfl) 57 (by rfl)
   replace hx330:f 330 = .pointer (some ⟨k4,0+1,none⟩):=hx330
   exact do_take (by rfl) (y_load (x:=330) (ad:=⟨k4,0+1,none⟩) (w_some (d:=325) (by rfl) (by rfl) (by decide) hx325) (by rfl) (by decide) hx330 fun V hV=>(hc V hV).2.2.2) hS
  ·intro f x hS hx hd
   have hx325:=dep_of hd (by rfl) 52 (by rfl)
   replace hx325:f 325 = .bool true:=hx325
   have hx329:=dep_of hd (by rfl) 56 (by rfl)
   replace hx329:f 329 = .slice aR nR cR:=hx329
   have hx331:=dep_of hd (by rfl) 58 (by rfl)
   replace hx331:f 331 = .slice bR mR dR:=hx331
   exact do_call (by rfl) (w_some (d:=325) (by rfl) (by rfl) (by decide) hx325) (e_call2 (x:=329) (y:=331) Tryz.func25 (by kernel_rfl) (by kernel_rfl) (by decide) (by decide) hx329 hx331) (q5 _ hS)
  ·intro f x hS hx hd
   have hx325:=dep_of hd (by rfl) 52 (by rfl)
   replace hx325:f 325 = .bool true:=hx325
   have hx332:=dep_of hd (by rfl) 59 (by rfl)
   replace hx332:f 332 = .bool true:=hx332
   exact do_take (by rfl) (y_pick (x:=325) (y:=332) (w_none (by rfl)) (by rfl) (by decide) (by decide) hx325 hx332) hS
  ·intro f x hS hx hd
   have hx333:=dep_of hd (by rfl) 60 (by rfl)
   replace hx333:f 333 = .bool true:=hx333
   exact do_take (by rfl) (y_move (x:=333) (w_none (by rfl)) (by rfl) (by decide) hx333) hS
  ·intro f x hS hx hd
   have hx30:f 30 = v30:=(hx 30 (by decide)).trans h30
   have hx334:=dep_of hd (by rfl) 61 (by rfl)
   replace hx334:f 334 = .bool true:=hx334
   exact do_take (by rfl) (y_move (x:=30) (w_some (d:=334) (by rfl) (by rfl) (by decide) hx334) (by rfl) (by decide) hx30) hS
  ·intro f x hS hx hd
   have hx38:f 38 = v38:=(hx 38 (by decide)).trans h38
   have hx334:=dep_of hd (by rfl) 61 (by rfl)
   replace hx334:f 334 = .bool true:=hx334
   exact do_take (by rfl) (y_move (x:=38) (w_some (d:=334) (by rfl) (by rfl) (by decide) hx334) (by rfl) (by decide) hx38) hS
  ·intro f x hS hx hd
   have hx334:=dep_of hd (by rfl) 61 (by rfl)
   replace hx334:f 334 = .bool true:=hx334
   have hx335:=dep_of hd (by rfl) 62 (by rfl)
   replace hx335:f 335 = v30:=hx335
   have hx336:=dep_of hd (by rfl) 63 (by rfl)
   replace hx336:f 336 = v38:=hx336
   exact do_call (by rfl) (w_some (d:=334) (by rfl) (by rfl) (by decide) hx334) (e_call2 (x:=335) (y:=336) Tryz.func25 (by kernel_rfl) (by kernel_rfl) (by decide) (by decide) hx335 hx336) (q6 _ hS)
  ·intro f x hS hx hd
   have hx334:=dep_of hd (by rfl) 61 (by rfl)
   replace hx334:f 334 = .bool true:=hx334
   have hx337:=dep_of hd (by rfl) 64 (by rfl)
   replace hx337:f 337 = .bool true:=hx337
   exact do_take (by rfl) (y_pick (x:=334) (y:=337) (w_none (by rfl)) (by rfl) (by decide) (by decide) hx334 hx337) hS
  ·intro f x hS hx hd
   have hx338:=dep_of hd (by rfl) 65 (by rfl)
   replace hx338:f 338 = .bool true:=hx338
   exact do_take (by rfl) (y_move (x:=338) (w_none (by rfl)) (by rfl) (by decide) hx338) hS
  ·intro f x hS hx hd
   have hx33:f 33 = v33:=(hx 33 (by decide)).trans h33
   have hx339:=dep_of hd (by rfl) 66 (by rfl)
   replace hx339:f 339 = .bool true:=hx339
   exact do_take (by rfl) (y_move (x:=33) (w_some (d:=339) (by rfl) (by rfl) (by decide) hx339) (by rfl) (by decide) hx33) hS
  ·intro f x hS hx hd
   have hx41:f 41 = v41:=(hx 41 (by decide)).trans h41
   have hx339:=dep_of hd (by rfl) 66 (by rfl)
   replace hx339:f 339 = .bool true:=hx339
   exact do_take (by rfl) (y_move (x:=41) (w_some (d:=339) (by rfl) (by rfl) (by decide) hx339) (by rfl) (by decide) hx41) hS
  ·intro f x hS hx hd
   have hx339:=dep_of hd (by rfl) 66 (by rfl)
   replace hx339:f 339 = .bool true:=hx339
   have hx340:=dep_of hd (by rfl) 67 (by rfl)
   replace hx340:f 340 = v33:=hx340
   have hx341:=dep_of hd (by rfl) 68 (by rfl)
   replace hx341:f 341 = v41:=hx341
   exact do_call (by rfl) (w_some (d:=339) (by rfl) (by rfl) (by decide) hx339) (e_call2 (x:=340) (y:=341) Tryz.func10 (by kernel_rfl) (by kernel_rfl) (by decide) (by decide) hx340 hx341) (q7 _ hS)
  ·intro f x hS hx hd
   have hx339:=dep_of hd (by rfl) 66 (by rfl)
   replace hx339:f 339 = .bool true:=hx339
   have hx342:=dep_of hd (by rfl) 69 (by rfl)
   replace hx342:f 342 = .bool true:=hx342
   exact do_take (by rfl) (y_pick (x:=339) (y:=342) (w_none (by rfl)) (by rfl) (by decide) (by decide) hx339 hx342) hS
  ·intro f x hS hx hd
   have hx343:=dep_of hd (by rfl) 70 (by rfl)
   replace hx343:f 343 = .bool true:=hx343
   exact do_take (by rfl) (y_move (x:=343) (w_none (by rfl)) (by rfl) (by decide) hx343) hS
  ·intro f x hS hx hd
   have hx35:f 35 = v35:=(hx 35 (by decide)).trans h35
   have hx344:=dep_of hd (by rfl) 71 (by rfl)
   replace hx344:f 344 = .bool true:=hx344
   exact do_take (by rfl) (y_move (x:=35) (w_some (d:=344) (by rfl) (by rfl) (by decide) hx344) (by rfl) (by decide) hx35) hS
  ·intro f x hS hx hd
   have hx43:f 43 = v43:=(hx 43 (by decide)).trans h43
   have hx344:=dep_of hd (by rfl) 71 (by rfl)
   replace hx344:f 344 = .bool true:=hx344
   exact do_take (by rfl) (y_move (x:=43) (w_some (d:=344) (by rfl) (by rfl) (by decide) hx344) (by rfl) (by decide) hx43) hS
  ·intro f x hS hx hd
   have hx344:=dep_of hd (by rfl) 71 (by rfl)
   replace hx344:f 344 = .bool true:=hx344
   have hx345:=dep_of hd (by rfl) 72 (by rfl)
   replace hx345:f 345 = v35:=hx345
   have hx346:=dep_of hd (by rfl) 73 (by rfl)
   replace hx346:f 346 = v43:=hx346
   exact do_call (by rfl) (w_some (d:=344) (by rfl) (by rfl) (by decide) hx344) (e_call2 (x:=345) (y:=346) Tryz.func9 (by kernel_rfl) (by kernel_rfl) (by decide) (by decide) hx345 hx346) (q8 _ hS)
  ·intro f x hS hx hd
   have hx344:=dep_of hd (by rfl) 71 (by rfl)
   replace hx344:f 344 = .bool true:=hx344
   have hx347:=dep_of hd (by rfl) 74 (by rfl)
   replace hx347:f 347 = .bool true:=hx347
   exact do_take (by rfl) (y_pick (x:=344) (y:=347) (w_none (by rfl)) (by rfl) (by decide) (by decide) hx344 hx347) hS
  ·intro f x hS hx hd
   have hx348:=dep_of hd (by rfl) 75 (by rfl)
   replace hx348:f 348 = .bool true:=hx348
   exact do_take (by rfl) (y_move (x:=348) (w_none (by rfl)) (by rfl) (by decide) hx348) hS
  ·intro f x hS hx hd
   have hx36:f 36 = v36:=(hx 36 (by decide)).trans h36
   have hx349:=dep_of hd (by rfl) 76 (by rfl)
   replace hx349:f 349 = .bool true:=hx349
   exact do_take (by rfl) (y_move (x:=36) (w_some (d:=349) (by rfl) (by rfl) (by decide) hx349) (by rfl) (by decide) hx36) hS
  ·intro f x hS hx hd
   have hx44:f 44 = v44:=(hx 44 (by decide)).trans h44
   have hx349:=dep_of hd (by rfl) 76 (by rfl)
   replace hx349:f 349 = .bool true:=hx349
   exact do_take (by rfl) (y_move (x:=44) (w_some (d:=349) (by rfl) (by rfl) (by decide) hx349) (by rfl) (by decide) hx44) hS
  ·intro f x hS hx hd
   have hx349:=dep_of hd (by rfl) 76 (by rfl)
   replace hx349:f 349 = .bool true:=hx349
   have hx350:=dep_of hd (by rfl) 77 (by rfl)
   replace hx350:f 350 = v36:=hx350
   have hx351:=dep_of hd (by rfl) 78 (by rfl)
   replace hx351:f 351 = v44:=hx351
   exact do_call (by rfl) (w_some (d:=349) (by rfl) (by rfl) (by decide) hx349) (e_call2 (x:=350) (y:=351) Tryz.func10 (by kernel_rfl) (by kernel_rfl) (by decide) (by decide) hx350 hx351) (q9 _ hS)
  ·intro f x hS hx hd
   have hx349:=dep_of hd (by rfl) 76 (by rfl)
   replace hx349:f 349 = .bool true:=hx349
   have hx352:=dep_of hd (by rfl) 79 (by rfl)
   replace hx352:f 352 = .bool true:=hx352
   exact do_take (by rfl) (y_pick (x:=349) (y:=352) (w_none (by rfl)) (by rfl) (by decide) (by decide) hx349 hx352) hS
  ·intro f x hS hx hd
   have hx353:=dep_of hd (by rfl) 80 (by rfl)
   replace hx353:f 353 = .bool true:=hx353
   exact do_take (by rfl) (y_move (x:=353) (w_none (by rfl)) (by rfl) (by decide) hx353) hS
  ·intro f x hS hx hd
   have hx20:f 20 = .bool is:=(hx 20 (by decide)).trans h20
   have hx354:=dep_of hd (by rfl) 81 (by rfl)
   replace hx354:f 354 = .bool true:=hx354
   exact do_take (by rfl) (y_move (x:=20) (w_some (d:=354) (by rfl) (by rfl) (by decide) hx354) (by rfl) (by decide) hx20) hS
  ·intro f x hS hx hd
   have hx47:f 47 = .bool is:=(hx 47 (by decide)).trans h47
   have hx354:=dep_of hd (by rfl) 81 (by rfl)
   replace hx354:f 354 = .bool true:=hx354
   exact do_take (by rfl) (y_move (x:=47) (w_some (d:=354) (by rfl) (by rfl) (by decide) hx354) (by rfl) (by decide) hx47) hS
  ·intro f x hS hx hd
   have hx354:=dep_of hd (by rfl) 81 (by rfl)
   replace hx354:f 354 = .bool true:=hx354
   have hx355:=dep_of hd (by rfl) 82 (by rfl)
   replace hx355:f 355 = .bool is:=hx355
   have hx356:=dep_of hd (by rfl) 83 (by rfl)
   replace hx356:f 356 = .bool is:=hx356
   exact do_take (by rfl) (y_eqb (x:=355) (y:=356) (z:=is) (w_some (d:=354) (by rfl) (by rfl) (by decide) hx354) (by rfl) (by decide) (by decide) hx355 hx356) hS
  ·intro f x hS hx hd
   have hx354:=dep_of hd (by rfl) 81 (by rfl)
   replace hx354:f 354 = .bool true:=hx354
   have hx357:=dep_of hd (by rfl) 84 (by rfl)
   replace hx357:f 357 = .bool true:=hx357
   exact do_take (by rfl) (y_pick (x:=354) (y:=357) (w_none (by rfl)) (by rfl) (by decide) (by decide) hx354 hx357) hS
  ·intro f x hS hx hd
   have hx358:=dep_of hd (by rfl) 85 (by rfl)
   replace hx358:f 358 = .bool true:=hx358
   exact do_take (by rfl) (y_move (x:=358) (w_none (by rfl)) (by rfl) (by decide) hx358) hS
  ·intro f x hS hx hd
   have hx19:f 19 = v19:=(hx 19 (by decide)).trans h19
   have hx359:=dep_of hd (by rfl) 86 (by rfl)
   replace hx359:f 359 = .bool true:=hx359
   exact do_take (by rfl) (y_move (x:=19) (w_some (d:=359) (by rfl) (by rfl) (by decide) hx359) (by rfl) (by decide) hx19) hS
  ·intro f x hS hx hd
   have hx46:f 46 = v46:=(hx 46 (by decide)).trans h46
   have hx359:=dep_of hd (by rfl) 86 (by rfl)
   replace hx359:f 359 = .bool true:=hx359
   exact do_take (by rfl) (y_move (x:=46) (w_some (d:=359) (by rfl) (by rfl) (by decide) hx359) (by rfl) (by decide) hx46) hS
  ·intro f x hS hx hd
   have hx359:=dep_of hd (by rfl) 86 (by rfl)
   replace hx359:f 359 = .bool true:=hx359
   have hx360:=dep_of hd (by rfl) 87 (by rfl)
   replace hx360:f 360 = v19:=hx360
   have hx361:=dep_of hd (by rfl) 88 (by rfl)
   replace hx361:f 361 = v46:=hx361
   exact do_call (by rfl) (w_some (d:=359) (by rfl) (by rfl) (by decide) hx359) (e_call2 (x:=360) (y:=361) Tryz.func26 (by kernel_rfl) (by kernel_rfl) (by decide) (by decide) hx360 hx361) (q10 _ hS)
  ·intro f x hS hx hd
   have hx359:=dep_of hd (by rfl) 86 (by rfl)
   replace hx359:f 359 = .bool true:=hx359
   have hx362:=dep_of hd (by rfl) 89 (by rfl)
   replace hx362:f 362 = .bool true:=hx362
   exact do_take (by rfl) (y_pick (x:=359) (y:=362) (w_none (by rfl)) (by rfl) (by decide) (by decide) hx359 hx362) hS
  ·intro f x hS hx hd
   have hx363:=dep_of hd (by rfl) 90 (by rfl)
   replace hx363:f 363 = .bool true:=hx363
   exact do_take (by rfl) (y_assign (x:=363) (w_none (by rfl)) (by rfl) (by decide) hx363) hS
 have hx6:f 6 = .bool true:=hd 91 (by decide)
 refine hKn _ _ ?_
 apply wp_ret
 refine bodyPost_ret (v:=.bool true) ?_ rfl ?_
 ·rw [results_tmp (t:=6) rfl]
  show Result.ok ((fr 364 f).eval (.tmp 6)) _ = _
  rw [fr_eval f (by decide),hx6]
 ·exact ⟨rfl,hB.trans (hS.mono hB.size)⟩
end Go.Proofs.YtglohanbpjaieaaGreat
namespace Go.Proofs.YtglohanbpjaieaaGreat
open Go.Proofs Go.RowKit Go.Shelf Go.Maps
theorem Tm.AllTo.pre {rs:RuleL} {n m:Nat} {L:PairL} (h:Tm.AllTo rs n m L):(∀ i j,j≤rs.length→(i < n∨(i = n∧j≤m))→∃ l,Tm.AllTo rs i j l∧l.length≤L.length)∧(∀ i j,j < rs.length→(i < n∨(i = n∧j < m))→∃ ps,Tm.OfSays rs (i:Int) (j:Int) 0 ps):=by
 induction h with
 | zero =>
  refine ⟨fun i j _ h=>?_,fun i j _ h=>by omega⟩
  obtain ⟨rfl,rfl⟩:i = 0∧j = 0:=by omega
  exact ⟨[],.zero,Nat.le_refl _⟩
 | @next n m L0 ps h hm hs ih =>
  refine ⟨fun i j hj hb=>?_,fun i j hj hb=>?_⟩
  ·by_cases e:i = n∧j = m+1
   ·obtain ⟨rfl,rfl⟩:=e
    exact ⟨_,.next h hm hs,Nat.le_refl _⟩
   ·obtain ⟨l,h1,h2⟩:=ih.1 i j hj (by omega)
    exact ⟨l,h1,by rw [List.length_append];omega⟩
  ·by_cases e:i = n∧j = m
   ·obtain ⟨rfl,rfl⟩:=e
    exact ⟨ps,hs⟩
   ·exact ih.2 i j hj (by omega)
 | @row n L0 h ih =>
  refine ⟨fun i j hj hb=>?_,fun i j hj hb=>?_⟩
  ·by_cases e:i = n+1
   ·subst e
    obtain rfl:j = 0:=by omega
    exact ⟨_,.row h,Nat.le_refl _⟩
   ·exact ih.1 i j hj (by omega)
  ·exact ih.2 i j hj (by omega)
theorem Tm.OfSays.bad {rs:RuleL} {i j:Nat} {er:Int} {ps:PairL} (h:Tm.OfSays rs (i:Int) (j:Int) er ps) (hi:i < rs.length) (hj:j < rs.length) (he:er≠0):er = if Tm.rulesErr rs = 0 then 2 else Tm.rulesErr rs:=by
 rcases h with ⟨h1,rfl,_⟩ | ⟨h1,h2,_,_⟩ | ⟨h1,a,b,ha,hb,ea,eb,h2⟩
 ·rw [if_neg h1]
 ·exact absurd ⟨by omega,by omega,by omega,by omega⟩ h2
 ·rw [if_pos h1]
  obtain ⟨_,hall⟩:=Tm.rulesErr_ok h1
  obtain ⟨eL,eR,_⟩:=Tm.ruleErr_ok (hall a ha)
  obtain ⟨eL2,eR2,fL,fR,_⟩:=Tm.ruleErr_ok (hall b hb)
  rcases h2 with ⟨h3,_⟩ | ⟨h3,_⟩
  ·exact absurd h3 he
  ·exact h3.two eL eR (Tm.others_err eL2 fL) (Tm.others_err eR2 fR)
theorem Tm.AllTo.one {rs:RuleL} {n m:Nat} {L:PairL} (h:Tm.AllTo rs n m L):n≤rs.length→∀ {L'},Tm.AllTo rs n m L'→L = L':=by
 induction h with
 | zero=>intro _ L' h';cases h';rfl
 | @next n m L0 ps h hm hs ih =>
  intro hn L' h'
  cases h' with
  | next h2 _ hs2=>rw [ih hn h2,(hs.one hs2).2]
 | @row n L0 h ih =>
  intro hn L' h'
  cases h' with
  | row h2=>exact ih (by omega) h2
def Tm.RefAll (rs:RuleL) (er:Int) (ps:PairL):Prop:=Tm.AllPSays rs er ps∨(Tm.rulesErr rs = 0∧er = 2∧ps = []∧∃ i j l,i < rs.length∧j≤rs.length∧Tm.AllTo rs i j l∧40 < l.length)
theorem Tm.AllPSays.one {rs:RuleL} {er er':Int} {ps ps':PairL} (h:Tm.AllPSays rs er ps) (h':Tm.AllPSays rs er' ps'):er = er'∧ps = ps':=by
 have key:∀ {L:PairL} {i j:Nat} {er:Int} {qs:PairL},Tm.AllTo rs rs.length 0 L→i < rs.length→j < rs.length→Tm.OfSays rs (i:Int) (j:Int) er qs→er≠0→False:=fun hL hi hj hs he=>by
  obtain ⟨ps,h⟩:=hL.pre.2 _ _ hj (.inl hi)
  exact he (hs.one h).1
 rcases h with ⟨l,hl,hc⟩ | ⟨i,j,l,qs,hi,hj,hl,hs,he,rfl⟩ <;> rcases h' with ⟨l',hl',hc'⟩ | ⟨i',j',l',qs',hi',hj',hl',hs',he',rfl⟩
 ·obtain rfl:=hl.one (Nat.le_refl _) hl'
  rcases hc with ⟨h1,rfl,rfl⟩ | ⟨h1,rfl,rfl⟩ <;> rcases hc' with ⟨h2,rfl,rfl⟩ | ⟨h2,rfl,rfl⟩
  ·exact ⟨rfl,rfl⟩
  ·omega
  ·omega
  ·exact ⟨rfl,rfl⟩
 ·exact (key hl hi' hj' hs' he').elim
 ·exact (key hl' hi hj hs he).elim
 ·exact ⟨by rw [hs.bad hi hj he,hs'.bad hi' hj' he'],rfl⟩
theorem Tm.AllPSays.ref {rs:RuleL} {er er':Int} {ps ps':PairL} (h:Tm.AllPSays rs er ps) (h':Tm.RefAll rs er' ps'):er = er'∧ps = ps':=by
 rcases h' with h' | ⟨hr,rfl,rfl,i,j,l,hi,hj,hl,h40⟩
 ·exact h.one h'
 ·rcases h with ⟨L,hL,⟨h1,rfl,rfl⟩ | ⟨h1,rfl,rfl⟩⟩ | ⟨a,b,l2,qs,ha,hb,hl2,hs,he,rfl⟩
  ·obtain ⟨l',h2,h3⟩:=hL.pre.1 i j hj (.inl hi)
   obtain rfl:=hl.one (by omega) h2
   omega
  ·exact ⟨rfl,rfl⟩
  ·exact ⟨by rw [hs.bad ha hb he,if_pos hr],rfl⟩
theorem Tm.AllTo.lens {rs:RuleL} {n m:Nat} {L:PairL} (h:Tm.AllTo rs n m L):∀ x∈L,x.1.length≤1000∧x.2.length≤1000:=by
 induction h with
 | zero=>intro x hx;cases hx
 | @next n m L0 ps h hm hs ih =>
  intro x hx
  rcases List.mem_append.1 hx with h1 | h1
  ·exact ih x h1
  ·exact hs.short x h1
 | row h ih=>exact ih
theorem Tm.AllPSays.lens {rs:RuleL} {er:Int} {ps:PairL} (h:Tm.AllPSays rs er ps):ps.length≤1000∧∀ k,k < ps.length→(ps[k]?.getD ([],[])).1.length≤1000∧(ps[k]?.getD ([],[])).2.length≤1000:=by
 rcases h with ⟨l,hl,⟨h1,_,rfl⟩ | ⟨_,_,rfl⟩⟩ | ⟨_,_,_,_,_,_,_,_,_,rfl⟩
 ·refine ⟨by omega,fun k hk=>?_⟩
  rw [List.getElem?_eq_getElem hk]
  exact hl.lens _ (List.getElem_mem hk)
 ·exact ⟨by simp,fun k hk=>by simp at hk⟩
 ·exact ⟨by simp,fun k hk=>by simp at hk⟩
theorem wp_append_q {ops:Array Oper} {rest:List Oper} {o:Oper} {a:Act} {Q:Exit→Act→World→Prop} (w:World) (hgd:o.guard = none) (s x:Operand)
 (ho:o.op = .call { callee:=.builtin .append,args:=#[s,x],argTypes:=#[24,24] }) (base:Nat) (v:Value) (ps:PairL) (hs:a.eval s = v) (hN:NewQ base w v ps)
 (v2:Value) (qs:PairL) (hx:a.eval x = v2) (hM:NewQ base w v2 qs) (hlen:ps.length+qs.length≤100000) (hbase:base≤w.heap.size)
 (h:∀ v' w',NewQ base w' v' (ps++qs)→Below base w w'→wpList Tryz.prog ops Q rest (a.put o.dst v') w'):wpList Tryz.prog ops Q (o :: rest) a w:=by
 obtain ⟨i0,hi,hz0,hz1,hz2⟩:=info_parts Tryz.info40
 obtain ⟨us,h1,h2⟩:=hN
 obtain ⟨us',m1,m2⟩:=hM
 have hul:us.length = ps.length * 2:=h1.1
 have hul':us'.length = qs.length * 2:=m1.1
 have hcell:∀ u∈us',∃ a n c,u = .slice a n c:=fun u hu=>by
  obtain ⟨k,hk,e⟩:=List.getElem_of_mem hu
  have hk2:k / 2 < qs.length:=by omega
  obtain ⟨y,yc,y',yc',q1,q2,_⟩:=m2 (k / 2) hk2
  rcases Nat.mod_two_eq_zero_or_one k with h0 | h0
  ·rw [show k / 2 * 2 = k by omega,List.getElem?_eq_getElem hk,e] at q1
   cases q1
   exact ⟨_,_,_,rfl⟩
  ·rw [show k / 2 * 2+1 = k by omega,List.getElem?_eq_getElem hk,e] at q2
   cases q2
   exact ⟨_,_,_,rfl⟩
 rcases m1.2 with ⟨rfl,hn⟩ | ⟨g,cap,cur,rfl,hb,hgb,r1,r2,r3⟩
 ·obtain rfl:qs = []:=List.eq_nil_of_length_eq_zero hn
  refine wpList_append_own_none hgd s x 24 ho base 40 i0 2 Tryz.infoPairs hi v ps.length us hs h1 hx (h v w (by rw [List.append_nil];exact ⟨us,h1,h2⟩) (Below.refl _ _))
 ·refine wpList_append_own w hgd s x 24 ho base 40 i0 (.agg #[.slice none 0 0,.slice none 0 0]) 2 48 Tryz.infoPairs hi hz0 hz1 hz2 rfl (by decide) v ps.length us hs h1 ⟨g,0,none⟩ qs.length cap us' hx (by omega)
   (by intro j z hj
       have hjl:j < qs.length * 2:=by
        have:=(List.getElem?_eq_some_iff.1 hj).1
        omega
       rw [Go.WideShapes.add_plain]
       have:=World.ownsRow.cellAt m1 j hjl
       rw [hj] at this
       simpa using this)
   (by intro u hu;obtain ⟨_,_,_,rfl⟩:=hcell u hu;rfl) (by unfold maxLen;omega) (by omega) hbase ?_
  intro v' w' hown hg _
  have hk:∀ b,base≤b→(∃ cs p,w.heap[b]? = some (.cells cs 3 p))→w'.heap[b]? = w.heap[b]?:=fun b _ ⟨cs,p,hb⟩=>hg.block b (Array.getElem?_eq_some_iff.1 hb).1 fun e=>by
   obtain ⟨cur,h⟩:=row_type h1 e.symm
   rw [hb] at h
   simp only [Option.some.injEq,Obj.cells.injEq] at h
   exact absurd h.2.1 (by decide)
  refine h v' w' ⟨us++us',by simpa using hown,fun j hj=>?_⟩ ((Below.refl base w).grown hg hbase (fun k e=>(World.ownsRow.lt h1 k e).1))
  by_cases hjl:j < ps.length
  ·obtain ⟨y,yc,y',yc',q1,q2,n1,n2,r⟩:=h2 j hjl
   rw [List.getElem?_append_left hjl,List.getElem?_append_left (by omega),List.getElem?_append_left (by omega)]
   exact ⟨y,yc,y',yc',q1,q2,n1.keep hk,n2.keep hk,r⟩
  ·have hj2:j - ps.length < qs.length:=by rw [List.length_append] at hj;omega
   obtain ⟨y,yc,y',yc',q1,q2,n1,n2,r⟩:=m2 (j - ps.length) hj2
   rw [List.getElem?_append_right (by omega),List.getElem?_append_right (by omega),List.getElem?_append_right (by omega),hul]
   rw [show j * 2 - ps.length * 2 = (j - ps.length) * 2 by omega,show j * 2+1 - ps.length * 2 = (j - ps.length) * 2+1 by omega]
   exact ⟨y,yc,y',yc',q1,q2,n1.keep hk,n2.keep hk,r⟩
set_option maxRecDepth 100000 in
set_option maxHeartbeats 2000000 in
theorem refAllPairs_any (rs:RuleL) (a:Option Addr) (cap:Nat) (w:World) (hr:Tm.rulesErr rs = 0) (hR:RulesAt w.heap.size w a rs) :
 Calls Tryz.prog 57 #[.slice a rs.length cap] w fun e w'=>Below w.heap.size w w'∧∃ er ps v,Tm.RefAll rs er ps∧e = .returned (.tuple #[v,.int .i64 er])∧NewQ w.heap.size w' v ps:=by
 have h8:=(Tm.rulesErr_ok hr).1
 have h8':(rs.length:Int)≤8:=by omega
 have HR:=hid hR
 have Hr:=hid hr
 clear hR hr
 go_enter Tryz.func57,Tryz.ntmps57
 go_wp2
 go_loopw [4,5] (fun v x wr=>∃ (i:Nat) (l:PairL),i≤rs.length∧x = .int .i64 (i:Int)∧l.length≤40∧Hid (Tm.AllTo rs i 0 l)∧Hid (NewQ w.heap.size wr v l)∧Hid (Below w.heap.size w wr)) (fun _ x _=>rs.length - (intOf x).toNat)
 case atStart=>exact ⟨0,[],Nat.zero_le _,rfl,by simp,.zero,NewQ.nil _ _,Below.refl _ _⟩
 case round =>
  obtain ⟨i,l,hi,rfl,hl40,hA,hN,hB⟩:=hrel
  by_cases hil:i < rs.length
  ·have hil':(i:Int) < (rs.length:Int):=by omega
   obtain ⟨va,vc,rfl,_⟩:=hN.out.at
   go_wp2
   go_loopw [4,6] (fun v x wr=>∃ (j:Nat) (l:PairL),j≤rs.length∧x = .int .i64 (j:Int)∧l.length≤40∧Hid (Tm.AllTo rs i j l)∧Hid (NewQ w.heap.size wr v l)∧Hid (Below w.heap.size w wr)) (fun _ x _=>rs.length - (intOf x).toNat)
   case atStart=>exact ⟨0,l,Nat.zero_le _,rfl,hl40,hA,hN,hB⟩
   case round =>
    clear hA hN hB hl40
    obtain ⟨j,l,hj,rfl,hl40,hA,hN,hB⟩:=hrel
    obtain ⟨va,vc,rfl,_⟩:=hN.out.at
    by_cases hjl:j < rs.length
    ·have hjl':(j:Int) < (rs.length:Int):=by omega
     have hC:=hid (refof_idx rs i j hil hjl a cap wr Hr.out ((HR.out.below hB.out).mono hB.out.size))
     go_wp2_with fail
     refine hC.out.mono ?_
     rintro e w1 ⟨hB1,er,ps,v1,hs,rfl,hN1⟩
     clear hC
     obtain ⟨xa,xc,rfl,_⟩:=hN1.at
     have hBw:=hid (hB.out.trans (hB1.mono hB.out.size))
     have hNw:=hid (hN.out.below hB1)
     have hN1':=hid (hN1.mono hB.out.size)
     clear hN hN1
     by_cases he:er = 0
     ·subst he
      have hA':=hid (Tm.AllTo.next hA.out hjl hs)
      have hpl:=hs.few
      obtain ⟨q,hq⟩:∃ q,l++ps = q:=⟨_,rfl⟩
      rw [hq] at hA'
      have Hq:=hid hq
      have hqI:(q.length:Int)≤2000:=by rw [← hq,List.length_append];omega
      clear hs hq
      by_cases h40:40 < q.length
      ·have h40':(40:Int) < (q.length:Int):=by omega
       go_wp2_with (at_builtin;refine wp_append_q _ rfl _ _ rfl w.heap.size _ l rfl hNw.out _ ps rfl hN1'.out (by omega) hBw.out.size ?_;intro v2 w2 hN2 hB2;rw [Hq.out] at hN2;obtain ⟨ya,yc,rfl,_⟩:=hN2.at;have hBw2:=hid (hBw.out.trans hB2);clear hN2 hB2)
       go_ret2
       exact ⟨hBw2.out,2,[],_,.inr ⟨Hr.out,rfl,rfl,i,j+1,q,hil,hjl,hA'.out,h40⟩,rfl,NewQ.nil _ _⟩
      ·have h40':decide ((40:Int) < (q.length:Int)) = false:=by simp;omega
       have h40n:decide (40 < q.length) = false:=by simp;omega
       go_wp2_with (at_builtin;refine wp_append_q _ rfl _ _ rfl w.heap.size _ l rfl hNw.out _ ps rfl hN1'.out (by omega) hBw.out.size ?_;intro v2 w2 hN2 hB2;rw [Hq.out] at hN2;obtain ⟨ya,yc,rfl,_⟩:=hN2.at;have HN2:=hid hN2;have hBw2:=hid (hBw.out.trans hB2);clear hN2 hB2)
       go_roundw
       case rel=>exact ⟨j+1,q,by omega,by go_num,by omega,hA',HN2,hBw2⟩
       case measure=>simp [intOf];omega
     ·have hne:(er != 0) = true:=by simpa using he
      have hs':Hid (Tm.RefAll rs er []):=.inl (.inr ⟨i,j,l,ps,hil,hjl,hA.out,hs,he,rfl⟩)
      clear he hs
      go_wp2
      go_ret2
      exact ⟨hBw.out,er,[],_,hs'.out,rfl,NewQ.nil _ _⟩
    ·obtain rfl:j = rs.length:=by omega
     go_wp2
     go_roundw
     case rel=>exact ⟨i+1,l,by omega,by go_num,hl40,.row hA.out,hN,hB⟩
     case measure=>simp [intOf];omega
  ·obtain rfl:i = rs.length:=by omega
   obtain ⟨va,vc,rfl,_⟩:=hN.out.at
   go_wp2
   go_ret2
   exact ⟨hB.out,0,l,_,.inl (.inl ⟨l,hA.out,.inl ⟨hl40,rfl,rfl⟩⟩),rfl,hN.out⟩
set_option maxRecDepth 100000 in
set_option maxHeartbeats 1000000 in
theorem refPairsAll_any (rs:RuleL) (a:Option Addr) (cap:Nat) (w:World) (hR:RulesAt w.heap.size w a rs) :
 Calls Tryz.prog 23 #[.slice a rs.length cap] w fun e w'=>Below w.heap.size w w'∧∃ er ps v,Tm.RefAll rs er ps∧e = .returned (.tuple #[v,.int .i64 er])∧NewQ w.heap.size w' v ps:=by
 have hE:=hid (rulesError_any rs a cap w hR)
 by_cases he:Tm.rulesErr rs = 0
 ·rw [he] at hE
  have hC:=hid (fun W (hW:Below w.heap.size w W)=>refAllPairs_any rs a cap W he ((hR.below hW).mono hW.size))
  clear he hR
  go_enter Tryz.func23,Tryz.ntmps23
  go_wp2_with fail
  refine hE.out.mono ?_
  rintro e w1 ⟨rfl,hB1⟩
  clear hE
  go_wp2_with fail
  refine (hC.out _ hB1).mono ?_
  rintro e w2 ⟨hB2,er,ps,v,hs,rfl,hN⟩
  obtain ⟨x,c,rfl,_⟩:=hN.at
  have Hs:=hid hs
  have HN:=hid hN
  clear hC hs hN
  go_wp2
  go_ret2
  exact ⟨hB1.trans (hB2.mono hB1.size),er,ps,_,Hs.out,rfl,HN.out.mono hB1.size⟩
 ·have hne:(Tm.rulesErr rs != 0) = true:=by simpa using he
  have h0:0 < rs.length:=by
   cases rs with
   | nil=>exact absurd rfl he
   | cons r l=>simp
  have hs:Hid (Tm.RefAll rs (Tm.rulesErr rs) []):=.inl (.inr ⟨0,0,[],[],h0,h0,.zero,.inl ⟨he,rfl,rfl⟩,he,rfl⟩)
  clear he hR h0
  generalize Tm.rulesErr rs = q at *
  go_enter Tryz.func23,Tryz.ntmps23
  go_wp2_with fail
  refine hE.out.mono ?_
  rintro e w1 ⟨rfl,hB1⟩
  clear hE
  go_wp2
  go_ret2
  exact ⟨hB1,q,[],_,hs.out,rfl,NewQ.nil _ _⟩
end Go.Proofs.YtglohanbpjaieaaGreat
namespace Go.Proofs.YtglohanbpjaieaaGreat
open Go.Proofs Go.RowKit Go.Shelf Go.Maps Go.Deep
structure InR (w:World) (a0:Option Addr) (cap0:Nat) (rs:RuleL) (bt ot cap1:Nat) (t:List Int) (be oe cap2:Nat) (ps:PairL) (bP oP cP:Nat) (P:List Int) (bQ oQ cQ:Nat) (Q:List Int):Prop where
 R:∀ W,Below w.heap.size w W→RulesAt W.heap.size W a0 rs
 T:∀ W,Below w.heap.size w W→Ints W.heap.size W (some ⟨bt,ot,none⟩) t
 E:∀ W,Below w.heap.size w W→RulesAt W.heap.size W (some ⟨be,oe,none⟩) ps
 iP:∀ W,Below w.heap.size w W→Ints W.heap.size W (some ⟨bP,oP,none⟩) P
 iQ:∀ W,Below w.heap.size w W→Ints W.heap.size W (some ⟨bQ,oQ,none⟩) Q
 cl:∀ W,Below w.heap.size w W→W.cell? ⟨be,oe,none⟩ = some (.slice (some ⟨bP,oP,none⟩) P.length cP)∧W.cell? ⟨be,oe+1,none⟩ = some (.slice (some ⟨bQ,oQ,none⟩) Q.length cQ)
 hr:rs.length≤cap0∧cap0≤maxLen∧(a0 = none→cap0 = 0)
 ht:t.length≤cap1∧cap1≤maxLen∧t.length≤30
 he:ps.length≤cap2∧cap2≤maxLen∧0 < ps.length
 hp:P.length≤cP∧cP≤maxLen∧P.length≤30
 hq:Q.length≤cQ∧cQ≤maxLen∧Q.length≤30
structure Late (W:World) (x3:Option Addr) (t:List Int) (k4:Nat) (aP:Option Addr) (c4:Nat) (P:List Int) (aQ:Option Addr) (d4:Nat) (Q:List Int) (rs:RuleL) (er7:Int) (ps7 ps:PairL) (er9:Int) (rs9 ps9:PairL) (er:Int) (is:Bool) (val:List (List Int)) (au:Option Addr):Prop where
 was:Ints W.heap.size W x3 t
 fst:W.cell? ⟨k4,0,none⟩ = some (.slice aP P.length c4)∧W.cell? ⟨k4,1,none⟩ = some (.slice aQ Q.length d4)∧k4 < W.heap.size
 iP:Ints W.heap.size W aP P
 iQ:Ints W.heap.size W aQ Q
 s7:Tm.AllPSays rs er7 ps7
 s9:Tm.TurnSays rk6 rs ps er9 rs9 ps9
 sM:Tm.MeetSays [(P,Q)] er is val
 u:Subs W.heap.size W au val
theorem normError_any (rs:RuleL) (t:List Int) (al at':Option Addr) (cl ct:Nat) (w:World) (hR:RulesAt w.heap.size w al rs) (hT:Ints w.heap.size w at' t) (h1:t.length≤ct) (h2:ct≤maxLen) :
 Calls Tryz.prog 24 #[.slice al rs.length cl,.slice at' t.length ct] w fun e w'=>e = .returned (.int .i64 (Tm.stepErr rs t))∧Below w.heap.size w w':=by
 have h:=hid (stepsOf_any rs t al at' cl ct w hR hT h1 h2)
 clear hR hT
 go_enter Tryz.func24,Tryz.ntmps24
 go_wp2_with fail
 refine h.out.mono ?_
 rintro e w1 ⟨v,rfl,_,b⟩
 go_wp2
 go_ret
 exact ⟨rfl,b⟩
theorem sameT_yes (xs:List Int) (a b:Option Addr) (ca cb:Nat) (w:World) (hX:Ints w.heap.size w a xs) (hY:Ints w.heap.size w b xs) (hm:xs.length≤maxLen) :
 Calls Tryz.prog 25 #[.slice a xs.length ca,.slice b xs.length cb] w fun e w'=>e = .returned (.bool true)∧Below w.heap.size w w':=by
 have h:=same_any xs xs a b ca cb w hX hY hm
 rwa [show sameB xs xs = true by simp [sameB]] at h
theorem sameSubs_yes (xs:List (List Int)) (a b:Option Addr) (ca cb:Nat) (w:World) (hX:Subs w.heap.size w a xs) (hY:Subs w.heap.size w b xs) (hm:xs.length≤1000) :
 Calls Tryz.prog 26 #[.slice a xs.length ca,.slice b xs.length cb] w fun e w'=>e = .returned (.bool true)∧Below w.heap.size w w':=by
 have h:=sameSubs_any xs xs a b ca cb w hX hY hm
 rwa [show sameSB xs xs = true by simp [sameSB]] at h
theorem Tm.MeetSays.len8 {ps:PairL} {er:Int} {is:Bool} {val:List (List Int)} (A:Tm.MeetSays ps er is val):val.length≤8:=by
 rcases A with ⟨_,_,_,rfl⟩ | ⟨_,_,_,_,rfl⟩ | ⟨_,σ,_,_,_,_,rfl⟩ | ⟨_,_,_,_,_,_,rfl⟩
 ·simp
 ·simp
 ·rw [Tm.sbL_length];exact Nat.le_refl _
 ·simp
theorem Ints.at2 {W V:World} {a:Option Addr} {zs:List Int} (h:Ints W.heap.size W a zs) (hB:Below W.heap.size W V):Ints V.heap.size V a zs:=(h.below hB).mono hB.size
theorem RulesAt.at2 {W V:World} {a:Option Addr} {rs:RuleL} (h:RulesAt W.heap.size W a rs) (hB:Below W.heap.size W V):RulesAt V.heap.size V a rs:=(h.below hB).mono hB.size
theorem Subs.at2 {W V:World} {a:Option Addr} {ss:List (List Int)} (h:Subs W.heap.size W a ss) (hB:Below W.heap.size W V):Subs V.heap.size V a ss:=(h.below hB).mono hB.size
theorem calls_base {f:Nat} {args:Array Value} {W V:World} {v:Value} (h:Calls Tryz.prog f args V fun e w'=>e = .returned v∧Below V.heap.size V w') (hV:Below W.heap.size W V):Calls Tryz.prog f args V fun e w'=>e = .returned v∧Below W.heap.size W w' :=
 h.mono fun _ _ ⟨h1,h2⟩=>⟨h1,hV.trans (h2.mono hV.size)⟩
set_option maxRecDepth 100000 in
set_option maxHeartbeats 20000000 in
theorem rt14 {w W:World} {a0 x3 aP aQ au:Option Addr} {cap0 cap1 cap2 bt ot be oe bP oP bQ oQ cP cQ k3 k4 n4 d4 cu:Nat} {rs:RuleL} {ps ps7 rs9 ps9:PairL} {t P Q:List Int} {er7 er9 er:Int} {is:Bool} {val:List (List Int)}
 (I:InR w a0 cap0 rs bt ot cap1 t be oe cap2 ps bP oP cP P bQ oQ cQ Q) (B:Below w.heap.size w W) (L:Late W x3 t k4 aP n4 P aQ d4 Q rs er7 ps7 ps er9 rs9 ps9 er is val au) {c3 c4 c5 c6 c9 c10 c12 c14 c16 c17 c21 c22 c23 c24 c25 c26 c27 c28 c29 c30 c31 c32 c33 c34 c35 c36 c37 c38 c39 c40 c41 c42 c43 c44 c45 c46 c47 c48 c49 c50 c51 c52 c53 c54 c55 c56 c57 c58 c59 c60 c61 c62 c63 c64 c65 c66 c67 c68 c69 c70 c71 c72 c73 c74 c75 c76 c77 c78 c79 c80 c81 c82 c83 c84 c85 c86 c87 c88 c89 c90 c91 c92 c93 c94 c95 c96 c97 c98 c99 c100 c101 c102 c103 c104 c105 c106 c107 c108 c109 c110 c111 c112 c113 c114 c115 c116 c117 c118 c119 c120 c121 c122 c123 c124 c125 c126 c127 c128 c129 c130 c131 c132 c133 c134 c135 c136 c137 c138 c139 c140 c141 c142 c143 c144 c145 c146 c147 c148 c149 c150 c151 c152 c153 c154 c155 c156 c157 c158 c159 c160 c161 c162 c163 c164 c165 c166 c167 c168 c169 c170 c171 c172 c173 c174 c175 c176 c177 c178 c179 c180 c181 c182 c183 c184 c185 c186 c187 c188 c189 c190 c191 c192 c193 c194 c195 c196 c197 c198 c199 c200 c201 c202 c203 c204 c205 c206 c207 c208 c209 c210 c211 c212 c213 c214 c215 c216 c217 c218 c219 c220 c221 c222 c223 c224 c225 c226 c227 c228 c229 c230 c231 c232 c233 c234 c235 c236 c237 c238 c239 c240 c241 c242 c243 c244 c245 c246 c247 c248 c249 c250 c251 c252 c253 c254 c255 c256 c257 c258 c259 c260 c261 c262 c263 c264 c265 c266 c267 c268 c269 c270 c271 c272 c273 c274 c275 c276 c277 c278 c279 c280 c281 c282 c283 c284 c285 c286 c287 c288 c289 c290 c291 c292 c293 c294 c295 c296 c297 c298 c299 c300 c301 c302 c303 c304 c305 c306 c307 c308 c309 c310 c311 c312 c313 c314 c315 c316 c317 c318 c319 c320 c321 c322 c323 c324 c325 c326 c327 c328 c329 c330 c331 c332 c333 c334 c335 c336 c337 c338 c339 c340 c341 c342 c343 c344 c345 c346 c347 c348 c349 c350 c351 c352 c353 c354 c355 c356 c357 c358 c359 c360 c361 c362 c363:Value} :
 Code.wp Tryz.prog (spine 14 (Tryz.f5.body.getD .skip)) (bodyPost Tryz.prog Tryz.f5 fun e w'=>e = .returned (.bool true)∧Below w.heap.size w w') ⟨#[.slice a0 rs.length cap0,.slice (some ⟨bt,ot,none⟩) t.length cap1,.slice (some ⟨be,oe,none⟩) ps.length cap2,c3,c4,c5,c6,.slice x3 t.length k3,.pointer (some ⟨k4,0,none⟩),c9,c10,.int .i64 (Tm.form rs t).2.2,c12,.int .i64 (Tm.stepErr rs t),c14,.int .i64 er7,c16,c17,.int .i64 er9,.slice au val.length cu,.bool is,c21,c22,c23,c24,c25,c26,c27,c28,c29,c30,c31,c32,c33,c34,c35,c36,c37,c38,c39,c40,c41,c42,c43,c44,c45,c46,c47,c48,c49,c50,c51,c52,c53,c54,c55,c56,c57,c58,c59,c60,c61,c62,c63,c64,c65,c66,c67,c68,c69,c70,c71,c72,c73,c74,c75,c76,c77,c78,c79,c80,c81,c82,c83,c84,c85,c86,c87,c88,c89,c90,c91,c92,c93,c94,c95,c96,c97,c98,c99,c100,c101,c102,c103,c104,c105,c106,c107,c108,c109,c110,c111,c112,c113,c114,c115,c116,c117,c118,c119,c120,c121,c122,c123,c124,c125,c126,c127,c128,c129,c130,c131,c132,c133,c134,c135,c136,c137,c138,c139,c140,c141,c142,c143,c144,c145,c146,c147,c148,c149,c150,c151,c152,c153,c154,c155,c156,c157,c158,c159,c160,c161,c162,c163,c164,c165,c166,c167,c168,c169,c170,c171,c172,c173,c174,c175,c176,c177,c178,c179,c180,c181,c182,c183,c184,c185,c186,c187,c188,c189,c190,c191,c192,c193,c194,c195,c196,c197,c198,c199,c200,c201,c202,c203,c204,c205,c206,c207,c208,c209,c210,c211,c212,c213,c214,c215,c216,c217,c218,c219,c220,c221,c222,c223,c224,c225,c226,c227,c228,c229,c230,c231,c232,c233,c234,c235,c236,c237,c238,c239,c240,c241,c242,c243,c244,c245,c246,c247,c248,c249,c250,c251,c252,c253,c254,c255,c256,c257,c258,c259,c260,c261,c262,c263,c264,c265,c266,c267,c268,c269,c270,c271,c272,c273,c274,c275,c276,c277,c278,c279,c280,c281,c282,c283,c284,c285,c286,c287,c288,c289,c290,c291,c292,c293,c294,c295,c296,c297,c298,c299,c300,c301,c302,c303,c304,c305,c306,c307,c308,c309,c310,c311,c312,c313,c314,c315,c316,c317,c318,c319,c320,c321,c322,c323,c324,c325,c326,c327,c328,c329,c330,c331,c332,c333,c334,c335,c336,c337,c338,c339,c340,c341,c342,c343,c344,c345,c346,c347,c348,c349,c350,c351,c352,c353,c354,c355,c356,c357,c358,c359,c360,c361,c362,c363],[]⟩ W:=by
 have cF:=hid (form_any rs t a0 (some ⟨bt,ot,none⟩) cap0 cap1 W (I.R W B) (I.T W B) I.ht.1 I.ht.2.1)
 conv=>arg 2;whnf
 go_wp2_with fail
 refine cF.out.mono ?_
 clear cF
 rintro e V5 ⟨vy,rfl,ny,b5⟩
 have B5:=B.trans (b5.mono B.size)
 have cA:=hid (AllP_any rs a0 cap0 V5 (I.R V5 B5) (Nat.le_trans I.hr.1 I.hr.2.1))
 go_wp2_with fail
 refine cA.out.mono ?_
 clear cA
 rintro e V6 ⟨er7',ps7',vv,says,rfl,nv,b6⟩
 obtain ⟨rfl,rfl⟩:=L.s7.one says
 have B6:=B5.trans (b6.mono B5.size)
 go_wp2_with fail
 refine (rank_any V6).mono ?_
 rintro e V7 ⟨ak,rfl,ik,b7⟩
 have B7:=B6.trans (b7.mono B6.size)
 have cU:=hid (Turn_any rk6 rs ps ak a0 (some ⟨be,oe,none⟩) 6 cap0 cap2 V7 ik (I.R V7 B7) (I.E V7 B7) I.he.1 I.he.2.1)
 go_wp2_with fail
 refine cU.out.mono ?_
 clear cU
 rintro e V8 ⟨er9',rs9',ps9',vw,vz,says9,rfl,nw,nz,b8⟩
 obtain ⟨rfl,rfl,rfl⟩:=Tm.TurnSays.one (fun _ _ _ _ _ _ _ h h'=>h.one h') L.s9 says9
 have B8:=B7.trans (b8.mono B7.size)
 have cG:=hid (formOf_any rs t a0 (some ⟨bt,ot,none⟩) cap0 cap1 V8 (I.R V8 B8) (I.T V8 B8) I.ht.1 I.ht.2.1)
 go_wp2_with fail
 refine cG.out.mono ?_
 clear cG
 rintro e V9 ⟨vk,rfl,nk,b9⟩
 have B9:=B8.trans (b9.mono B8.size)
 have cL:=hid (refPairsAll_any rs a0 cap0 V9 (I.R V9 B9))
 go_wp2_with fail
 refine cL.out.mono ?_
 clear cL
 rintro e V10 ⟨b10,er7'',ps7'',vl,saysl,rfl,nl⟩
 obtain ⟨rfl,rfl⟩:=L.s7.ref saysl
 have B10:=B9.trans (b10.mono B9.size)
 go_wp2_with fail
 refine (rank_any V10).mono ?_
 rintro e V11 ⟨ak2,rfl,ik2,b11⟩
 have B11:=B10.trans (b11.mono B10.size)
 have cT:=hid (refTurnOf_any rk6 rs ps ak2 a0 (some ⟨be,oe,none⟩) 6 cap0 cap2 V11 ik2 (I.R V11 B11) (I.E V11 B11) I.hr.2.2 I.he.1 I.he.2.1)
 go_wp2_with fail
 refine cT.out.mono ?_
 clear cT
 rintro e V12 ⟨er9'',rs9'',ps9'',vm,vr,mm,says9',rfl,nm,nr,b12⟩
 obtain ⟨rfl,rfl,rfl⟩:=Tm.TurnSays.one (fun _ _ _ _ _ _ _ h h'=>h.one h') L.s9 says9'
 have B12:=B11.trans (b12.mono B11.size)
 have hposN:0 < ps.length:=I.he.2.2
 have hpos:(0:Int) < (ps.length:Int):=by omega
 have hS12:=hid (fun V (hV:Below V12.heap.size V12 V)=>I.cl V (B12.trans (hV.mono B12.size)))
 have cM:=hid (fun V (hV:Below V12.heap.size V12 V)=>MeetOf_any P Q (some ⟨bP,oP,none⟩) (some ⟨bQ,oQ,none⟩) cP cQ V (I.iP V (B12.trans (hV.mono B12.size))) (I.iQ V (B12.trans (hV.mono B12.size))) I.hp.1 I.hp.2.1 I.hq.1 I.hq.2.1)
 have Hny:=hid ny
 have Hnv:=hid nv
 have Hnw:=hid nw
 have Hnz:=hid nz
 have Hnk:=hid nk
 have Hnl:=hid nl
 have Hnm:=hid nm
 have Hnr:=hid nr
 have HL:=hid L
 have HI:=hid I
 have d11:=b11.trans (b12.mono b11.size)
 have d10:=b10.trans (d11.mono b10.size)
 have d9:=b9.trans (d10.mono b9.size)
 have d8:=b8.trans (d9.mono b8.size)
 have d7:=b7.trans (d8.mono b7.size)
 have d6:=b6.trans (d7.mono b6.size)
 have d5:=b5.trans (d6.mono b5.size)
 have H0:=hid d5
 have H5:=hid d6
 have H6:=hid d7
 have H8:=hid d9
 have H9:=hid d10
 have H10:=hid d11
 have HB12:=hid B12
 clear ny nv nw nz nk nl nm nr L I says saysl says9 says9' d5 d6 d7 d8 d9 d10 d11 b5 b6 b7 b8 b9 b10 b11 b12 B B5 B6 B7 B8 B9 B10 B11 B12 ik ik2
 go_upto_region 43 with fail
 rename_i Kn hKn
 go_cut [46,47,48] (fun x y z wx=>∃ au2 cu2,x = .slice au2 val.length cu2∧y = .bool is∧z = .int .i64 er∧Subs wx.heap.size wx au2 val∧Below V12.heap.size V12 wx)
 case first =>
  go_region_held3 (fun w'=>w'.cell? ⟨be,oe,none⟩ = some (.slice (some ⟨bP,oP,none⟩) P.length cP)∧w'.cell? ⟨be,oe+1,none⟩ = some (.slice (some ⟨bQ,oQ,none⟩) Q.length cQ)) (first | assumption | exact hS12.out _ (below_drewN (Below.refl _ V12) 1) | exact hS12.out _ b13)
   ((go_at_call 21;refine (cM.out _ (below_drewN (Below.refl _ V12) 1)).mono ?_;rintro e V13 ⟨b13',er',is',val',vu,sM',rfl,nu⟩;have b13:=(below_drewN (Below.refl _ V12) 1).trans b13'))
  all_goals (
   obtain ⟨rfl,rfl,rfl⟩:=HL.out.sM.one sM'
   obtain ⟨au2,cu2,rfl,su,_⟩:=NewS.subs nu
   go_wp2_with fail
   go_meet
   exact ⟨au2,cu2,rfl,rfl,rfl,su,b13⟩)
 case rest =>
  obtain ⟨au2,cu2,rfl,rfl,rfl,su2,b13⟩:=hcut
  have hB:=HB12.out.trans (b13.mono HB12.out.size)
  have e0:=H0.out.trans (b13.mono H0.out.size)
  have e5:=H5.out.trans (b13.mono H5.out.size)
  have e6:=H6.out.trans (b13.mono H6.out.size)
  have e8:=H8.out.trans (b13.mono H8.out.size)
  have e9:=H9.out.trans (b13.mono H9.out.size)
  have e10:=H10.out.trans (b13.mono H10.out.size)
  obtain ⟨ay,cy,rfl,iy,my,my'⟩:=New.ints Hny.out
  obtain ⟨ak3,ck,rfl,ik,_⟩:=New.ints Hnk.out
  obtain ⟨av,cv,rfl,iv,_⟩:=Hnv.out.at
  obtain ⟨al,cl,rfl,il,_⟩:=Hnl.out.at
  obtain ⟨aw,cw,rfl,iw,_⟩:=Hnw.out.at
  obtain ⟨az,cz,rfl,iz,_⟩:=Hnz.out.at
  obtain ⟨am,cm,rfl,im,_⟩:=Hnm.out.at
  obtain ⟨ar,cr,rfl,ir,_⟩:=Hnr.out.at
  have l7:=HL.out.s7.lens
  have l9:=Tm.turn_lens HL.out.s9
  have lv:=HL.out.sM.len8
  have lF:(Tm.form rs t).1.length≤maxLen:=Nat.le_trans my my'
  have q1:=hid (fun V (hV:Below wc.heap.size wc V)=>calls_base (normBegun_any V) hV)
  have q2:=hid (fun V (hV:Below wc.heap.size wc V)=>calls_base (normError_any rs t a0 (some ⟨bt,ot,none⟩) cap0 cap1 V (HI.out.R V (hB.trans (hV.mono hB.size))) (HI.out.T V (hB.trans (hV.mono hB.size))) HI.out.ht.1 HI.out.ht.2.1) hV)
  have q3:=hid (fun V (hV:Below wc.heap.size wc V)=>calls_base (sameT_yes t (some ⟨bt,ot,none⟩) x3 cap1 k3 V (HI.out.T V (hB.trans (hV.mono hB.size))) (HL.out.was.at2 (e0.trans (hV.mono e0.size))) (by have:=HI.out.ht.1;have:=HI.out.ht.2.1;omega)) hV)
  have q4:=hid (fun V (hV:Below wc.heap.size wc V)=>calls_base (sameT_yes P (some ⟨bP,oP,none⟩) aP cP n4 V (HI.out.iP V (hB.trans (hV.mono hB.size))) (HL.out.iP.at2 (e0.trans (hV.mono e0.size))) (by have:=HI.out.hp.1;have:=HI.out.hp.2.1;omega)) hV)
  have q5:=hid (fun V (hV:Below wc.heap.size wc V)=>calls_base (sameT_yes Q (some ⟨bQ,oQ,none⟩) aQ cQ d4 V (HI.out.iQ V (hB.trans (hV.mono hB.size))) (HL.out.iQ.at2 (e0.trans (hV.mono e0.size))) (by have:=HI.out.hq.1;have:=HI.out.hq.2.1;omega)) hV)
  have q6:=hid (fun V (hV:Below wc.heap.size wc V)=>calls_base (sameT_yes (Tm.form rs t).1 ay ak3 cy ck V (iy.at2 (e5.trans (hV.mono e5.size))) (ik.at2 (e9.trans (hV.mono e9.size))) lF) hV)
  have q7:=hid (fun V (hV:Below wc.heap.size wc V)=>calls_base (samePairs_yes ps7 av al cv cl V (iv.at2 (e6.trans (hV.mono e6.size))) (il.at2 (e10.trans (hV.mono e10.size))) l7.1 l7.2) hV)
  have q8:=hid (fun V (hV:Below wc.heap.size wc V)=>calls_base (sameRules_yes rs9 aw am cw cm V (iw.at2 (e8.trans (hV.mono e8.size))) (im.at2 (b13.trans (hV.mono b13.size))) l9.1.1 l9.1.2) hV)
  have q9:=hid (fun V (hV:Below wc.heap.size wc V)=>calls_base (samePairs_yes ps9 az ar cz cr V (iz.at2 (e8.trans (hV.mono e8.size))) (ir.at2 (b13.trans (hV.mono b13.size))) l9.2.1 l9.2.2) hV)
  have q10:=hid (fun V (hV:Below wc.heap.size wc V)=>calls_base (sameSubs_yes val au au2 cu cu2 V (HL.out.u.at2 (e0.trans (hV.mono e0.size))) (su2.at2 hV) (by omega)) hV)
  have hS:=hid (fun V (hV:Below wc.heap.size wc V)=>show V.cell? ⟨be,oe,none⟩ = some (.slice (some ⟨bP,oP,none⟩) P.length cP)∧V.cell? ⟨be,oe+1,none⟩ = some (.slice (some ⟨bQ,oQ,none⟩) Q.length cQ)∧V.cell? ⟨k4,0,none⟩ = some (.slice aP P.length n4)∧V.cell? ⟨k4,0+1,none⟩ = some (.slice aQ Q.length d4) from ⟨(HI.out.cl V (hB.trans (hV.mono hB.size))).1,(HI.out.cl V (hB.trans (hV.mono hB.size))).2,((e0.trans (hV.mono e0.size)).cell (p:=⟨k4,0,none⟩) HL.out.fst.2.2).trans HL.out.fst.1,((e0.trans (hV.mono e0.size)).cell (p:=⟨k4,1,none⟩) HL.out.fst.2.2).trans HL.out.fst.2.1⟩)
  refine hKn _ _ ?_
  refine rt21 (by kernel_rfl) (by rfl) hposN (by rfl) (by rfl) (by rfl) (by rfl) (by rfl) (by rfl) (by rfl) (by rfl) (by rfl) (by rfl) (by rfl) (by rfl) (by rfl) (by rfl) (by rfl) (by rfl) (by rfl) (by rfl) (by rfl) (by rfl) (by rfl) (by rfl) (by rfl) (by rfl) (by rfl) (by rfl) (by rfl) hS.out q1.out q2.out q3.out q4.out q5.out q6.out q7.out q8.out q9.out q10.out hB
end Go.Proofs.YtglohanbpjaieaaGreat
