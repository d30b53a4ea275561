/-
  The library's contracts that the walks lean on, laid over this translation. · text.shown: the parts of a term are shown, and joined. · text.shown. · The reader's parts: the next byte, a mark, the sign of a letter. · The reader reads one term.
-/
import Derived.Shelf.Strings.Builder1
import Derived.Shelf.Strings.Builder2
import Derived.Shelf.Strings.OnBuilder
import Derived.Shelf.Small.Strs
import Derived.Shelf.Strings.BuilderF
import Derived.Shelf.Strings.BuilderK
import Derived.Shelf.Strings.Builder2Cap
import Derived.Shelf.Strings.Search1
import Derived.Shelf.Strings.BuilderCap
import Derived.Test.YtcgljcbpcchcjaaProg
import Derived.OwnWalkIn
import Derived.RangeFuncBox
import Derived.Deep.RegionHeld3
import Derived.Test.YtcgljcbpcchcjaaBtx4
import Derived.Test.YtcgljcbpcchcjaaBtx1
import Derived.OwnWalk
namespace Go.Proofs
open Go.Shelf
def Try.lays156_ren : Go.Shelf.Ren := ⟨fun | 156 => 25 | 165 => 32 | 166 => 33 | 169 => 34 | 240 => 38 | 241 => 39 | 276 => 41 | 277 => 42 | n => n, fun | 31 => 47 | 9 => 9 | 3 => 3 | 4 => 4 | 0 => 0 | 20 => 20 | 72 => 66 | 76 => 70 | 70 => 64 | 37 => 57 | 75 => 69 | 127 => 76 | 164 => 78 | 5 => 5 | 80 => 72 | n => n, fun | n => n⟩
theorem Try.lays156 : Go.Proofs.Lays.n156 Try.prog Try.lays156_ren := {
  mixed := by kernel_rfl
  f156 := Try.func25.trans (congrArg some (by kernel_rfl))
  f165 := Try.func32.trans (congrArg some (by kernel_rfl))
  f166 := Try.func33.trans (congrArg some (by kernel_rfl))
  f169 := Try.func34.trans (congrArg some (by kernel_rfl))
  f240 := Try.func38.trans (congrArg some (by kernel_rfl))
  f241 := Try.func39.trans (congrArg some (by kernel_rfl))
  f276 := Try.func41.trans (congrArg some (by kernel_rfl))
  f277 := Try.func42.trans (congrArg some (by kernel_rfl))
  t0 := Try.underlying0
  a0 := Try.isAgg0
  z0 := Try.sizeOf0
  v0 := Try.zeroValue0
  t3 := Try.underlying3
  a3 := Try.isAgg3
  z3 := Try.sizeOf3
  v3 := Try.zeroValue3
  t4 := Try.underlying4
  a4 := Try.isAgg4
  z4 := Try.sizeOf4
  v4 := Try.zeroValue4
  t9 := Try.underlying9
  a9 := Try.isAgg9
  z9 := Try.sizeOf9
  v9 := Try.zeroValue9
  t20 := Try.underlying20
  a20 := Try.isAgg20
  z20 := Try.sizeOf20
  v20 := Try.zeroValue20
  t31 := Try.underlying47
  a31 := Try.isAgg47
  z31 := Try.sizeOf47
  v31 := Try.zeroValue47
  t37 := Try.underlying57
  a37 := Try.isAgg57
  z37 := Try.sizeOf57
  v37 := Try.zeroValue57
  t70 := Try.underlying64
  a70 := Try.isAgg64
  z70 := Try.sizeOf64
  v70 := Try.zeroValue64
  t72 := Try.underlying66
  a72 := Try.isAgg66
  z72 := Try.sizeOf66
  v72 := Try.zeroValue66
  t75 := Try.underlying69
  a75 := Try.isAgg69
  z75 := Try.sizeOf69
  v75 := Try.zeroValue69
  t76 := Try.underlying70
  a76 := Try.isAgg70
  z76 := Try.sizeOf70
  v76 := Try.zeroValue70
  t127 := Try.underlying76
  a127 := Try.isAgg76
  z127 := Try.sizeOf76
  v127 := Try.zeroValue76
  t164 := Try.underlying78
  a164 := Try.isAgg78
  z164 := Try.sizeOf78
  v164 := Try.zeroValue78 }
theorem Try.Builder_Extra_156 : Builder.Extra Try.prog Try.lays156_ren := {
  sizeBuilder := by kernel_rfl
  liesBuilder := by kernel_rfl
  t5 := Try.underlying5
  a5 := Try.isAgg5
  z5 := Try.sizeOf5
  v5 := Try.zeroValue5
  infoByte := by kernel_rfl
  cellsByte := by kernel_rfl
  sizeByte := by kernel_rfl
  neB5 := by decide }
open Go.RowKit in
theorem Try.strings_Join (bk o c : Nat) (xs : List ByteArray) (sep : ByteArray) (w : World) (hcells : ∀ (j : Nat) x, xs[j]? = some x → w.cell? ⟨bk, o + j, none⟩ = some (.string x)) (hbk : bk < w.heap.size) (hN : xs.length ≤ 140737488355328) (hcap : xs.length ≤ c) (hlen : (Lib.join (xs.map (·.data.toList)) sep.data.toList).length ≤ 140737488355328) :
    Calls Try.prog 25 #[.slice (some ⟨bk, o, none⟩) xs.length c, .string sep] w fun e w' => e = .returned (.string ⟨(Lib.join (xs.map (·.data.toList)) sep.data.toList).toArray⟩) ∧ Below w.heap.size w w' := Any.strings_Join Try.lays156 Try.Builder_Extra_156 bk o c xs sep w hcells hbk hN hcap hlen
def Try.lays137_ren : Go.Shelf.Ren := ⟨fun | 137 => 40 | 217 => 43 | 266 => 44 | n => n, fun | 9 => 9 | 5 => 5 | 3 => 3 | n => n, fun | n => n⟩
theorem Try.lays137 : Go.Proofs.Lays.n137 Try.prog Try.lays137_ren := {
  mixed := by kernel_rfl
  f137 := Try.func40.trans (congrArg some (by kernel_rfl))
  f217 := Try.func43.trans (congrArg some (by kernel_rfl))
  f266 := Try.func44.trans (congrArg some (by kernel_rfl))
  t3 := Try.underlying3
  a3 := Try.isAgg3
  z3 := Try.sizeOf3
  v3 := Try.zeroValue3
  t5 := Try.underlying5
  a5 := Try.isAgg5
  z5 := Try.sizeOf5
  v5 := Try.zeroValue5
  t9 := Try.underlying9
  a9 := Try.isAgg9
  z9 := Try.sizeOf9
  v9 := Try.zeroValue9 }
open Go.RowKit in
theorem Try.strings_IndexByte (s : ByteArray) (c : Int) (w : World) :
    Calls Try.prog 40 #[.string s, .int .u8 c] w fun e w' => e = .returned (.int .i64 (Lib.indexByte s.data.toList c.toNat.toUInt8)) ∧ w' = w := Any.strings_IndexByte Try.lays137 s c w
end Go.Proofs

namespace Go.Proofs.Ytcgljcbpcchcjaa
open Go.Proofs Go.RowKit Go.Shelf Go.Maps

/-- A slice of texts in new memory. -/
def NewStr (base : Nat) (W : World) (v : Value) (ss : List (List UInt8)) : Prop := W.ownsRow base 9 1 v ss.length (ss.map sv)
theorem NewStr.nil (base : Nat) (W : World) : NewStr base W (.slice none 0 0) [] := World.ownsRow_nil _ _ _ _
theorem NewStr.slice {base : Nat} {W : World} {v : Value} {ss : List (List UInt8)} (h : NewStr base W v ss) : ∃ a c, v = .slice a ss.length c := by
  rcases h.2 with ⟨rfl, h0⟩ | ⟨g, cap, cur, rfl, _⟩
  · exact ⟨none, 0, by rw [h0]⟩
  · exact ⟨_, _, rfl⟩
theorem NewStr.at {base : Nat} {W : World} {v : Value} {ss : List (List UInt8)} (h : NewStr base W v ss) (hp : 0 < ss.length) : ∃ g c, v = .slice (some ⟨g, 0, none⟩) ss.length c ∧ ss.length ≤ c ∧ g < W.heap.size ∧ ∀ j x, (ss.map fun l => (⟨l.toArray⟩ : ByteArray))[j]? = some x → W.cell? ⟨g, 0 + j, none⟩ = some (.string x) := by
  rcases h.2 with ⟨rfl, h0⟩ | ⟨g, cap, cur, rfl, hb, hg, h1, h2, h3, h4⟩
  · omega
  · refine ⟨g, cap, rfl, h1, (Array.getElem?_eq_some_iff.1 hg).1, fun j x hj => ?_⟩
    have hj' : j < ss.length := by
      have := (List.getElem?_eq_some_iff.1 hj).1
      simpa using this
    have h5 := World.ownsRow.cellAt (show W.ownsRow base 9 1 (.slice (some ⟨g, 0, none⟩) ss.length cap) ss.length (ss.map sv) from h) j (by omega)
    rw [Nat.zero_add, h5]
    rw [List.getElem?_map, List.getElem?_eq_getElem hj'] at hj
    simp only [Option.map_some, Option.some.injEq] at hj
    subst hj
    rw [List.getElem?_map, List.getElem?_eq_getElem hj']
    rfl
theorem bx_own {X Y : World} {row : Option Nat} {B C : Nat} {cs : Array Value} {t : TypeId} {p : Nat × Nat} (h : X.heap[C]? = some (.cells cs t p)) (hg : X.grownBy Y row) (hr : ∀ r, row = some r → B ≤ r ∧ ∃ o : Obj, X.heap[r]? = some o ∧ o.isCells = false) : Y.heap[C]? = some (.cells cs t p) :=
  (hg.block C (Array.getElem?_eq_some_iff.1 h).1 (fun e => by
    obtain ⟨_, o, ho, hc⟩ := hr C e.symm
    rw [h] at ho
    cases ho
    simp [Obj.isCells] at hc)).trans h
theorem NewStr.kept {base : Nat} {W W' : World} {v : Value} {ss : List (List UInt8)} {row : Option Nat} (h : NewStr base W v ss) (hg : W.grownBy W' row) (hr : ∀ k, row = some k → ∀ cs p, W.heap[k]? ≠ some (.cells cs 9 p)) : NewStr base W' v ss := by
  refine World.ownsRow.kept h hg ?_
  rcases h.2 with ⟨rfl, _⟩ | ⟨g, cap, cur, rfl, _, hgb, _⟩
  · exact .inl rfl
  · exact .inr fun e' => hr g (by rw [← e']; rfl) _ _ hgb
theorem NewStr.block {base : Nat} {W : World} {v : Value} {ss : List (List UInt8)} (h : NewStr base W v ss) {k : Nat} (hk : v.ownBlock = some k) : base ≤ k ∧ ∃ cs p, W.heap[k]? = some (.cells cs 9 p) := by
  rcases h.2 with ⟨rfl, _⟩ | ⟨g, cap, cur, rfl, hb, hgb, _⟩
  · cases hk
  · obtain rfl : g = k := by simpa [Value.ownBlock] using hk
    exact ⟨hb, _, _, hgb⟩
theorem NewStr.below {base : Nat} {W W' : World} {v : Value} {ss : List (List UInt8)} (h : NewStr base W v ss) (hB : Below W.heap.size W W') : NewStr base W' v ss :=
  h.kept (grown_of_below hB) (fun k e => by cases e)
theorem bx_ne {W : World} {B : Nat} {t e : TypeId} {x : Value} (h : Boxed W B t x) (hte : t ≠ e) (cs : Array Value) (p : Nat × Nat) : W.heap[B]? ≠ some (.cells cs e p) := by
  rw [show W.heap[B]? = _ from h]
  intro h'
  simp only [Option.some.injEq, Obj.cells.injEq] at h'
  exact hte h'.2.1

theorem Try.info9 : (Try.prog.info? 9).map (fun i => (i.zero, i.size, i.bytes)) = some (some (.string ⟨#[]⟩), 1, 16) := by kernel_rfl
theorem run_append_str (w : World) (ty : TypeId) (base : Nat) (v : Value) (ss : List (List UInt8)) (hN : NewStr base w v ss) (B : Nat) (y : List UInt8) (hB : w.cell? ⟨B, 0, none⟩ = some (sv y)) (hlen : ss.length ≤ 1000000) (hbase : base ≤ w.heap.size) :
    ∃ v' w', (Builtin.append_ #[47, 47] ty #[v, .slice (some ⟨B, 0, none⟩) 1 1]).run Try.prog w = .ok v' w' ∧ NewStr base w' v' (ss ++ [y]) ∧ w.grownBy w' v.ownBlock := by
  obtain ⟨i0, hi, hz0, hz1, hz2⟩ := info_parts Try.info9
  have hc : ∀ j u, [sv y][j]? = some u → w.cell? ((⟨B, 0, none⟩ : Addr).add j) = some u := by
    intro j z hj
    match j, hj with
    | 0, hj => simp at hj; subst hj; rw [Go.WideShapes.add_plain]; simpa using hB
  have h1 : ∀ u ∈ [sv y], u.oneCell' = true := by intro z hz; simp at hz; subst hz; rfl
  obtain ⟨v', w', hr, r1, r2, _⟩ := run_append_own (P := Try.prog) w base 47 ty 9 i0 (.string ⟨#[]⟩) 1 16 Try.underlying47 hi hz0 hz1 hz2 rfl (by decide) v ss.length (ss.map sv) hN ⟨B, 0, none⟩ 1 1 [sv y] (by simp) hc h1 (by unfold maxLen; omega) (by omega) hbase
  exact ⟨v', w', hr, by simpa [NewStr] using r1, r2⟩
theorem opi_append_str {F : Fence} {n : Nat} {o : Oper} {a : Act} {K : Act → World → Prop} {Q : Exit → Act → World → Prop} (w : World) (s x : Operand)
    (ho : o.op = .call { callee := .builtin .append, args := #[s, x], argTypes := #[47, 47] }) (base : Nat) (v : Value) (ss : List (List UInt8)) (hs : a.eval s = v) (hN : NewStr base w v ss)
    (B : Nat) (y : List UInt8) (hx : a.eval x = .slice (some ⟨B, 0, none⟩) 1 1) (hB : w.cell? ⟨B, 0, none⟩ = some (sv y)) (hlen : ss.length ≤ 1000000) (hbase : base ≤ w.heap.size)
    (h : ∀ v' w', NewStr base w' v' (ss ++ [y]) → w.grownBy w' v.ownBlock → K (a.put o.dst v') w') : Oper.wpIn F n Try.prog o a w K Q := by
  obtain ⟨v', w', hrun, r1, r2⟩ := run_append_str w o.type base v ss hN B y hB hlen hbase
  unfold Oper.wpIn
  refine ⟨?_, ?_⟩
  · simp [Oper.about, ho, resolve, Target.leads, Sem.run_pure]
  · rw [Oper.semAt_plain F _ _ (by rw [ho]; intro c hc'; cases hc')]
    simp [execOp, ho, resolve, invoke, builtin, hs, hx, hrun, Result.andThen]
    exact h v' w' r1 r2

/-- What stands while parts are shown. -/
structure ShInv (w : World) (n : Nat) (tv : Value) (k : Nat) (ss : List (List UInt8)) (W : World) : Prop where
  bT : Boxed W n 23 tv
  out : ∃ v, Boxed W (n + 1) 47 v ∧ NewStr n W v ss
  bP : Boxed W (n + 1 + 1) 23 tv
  bK : Boxed W (n + 1 + 1 + 1) 3 (.int .i64 (k : Int))
  kp : Below n w W
theorem ShInv.own {w X Y : World} {n D k : Nat} {tv : Value} {ss : List (List UInt8)} {row : Option Nat} (hn : n ≤ w.heap.size) (hD : n ≤ D) (h : ShInv w n tv k ss X) (hg : X.grownBy Y row) (hr : ∀ r, row = some r → D ≤ r ∧ ∃ o : Obj, X.heap[r]? = some o ∧ o.isCells = false) : ShInv w n tv k ss Y := by
  obtain ⟨bT, ⟨v, hv, hN⟩, bP, bK, kp⟩ := h
  refine ⟨bx_own bT hg hr, ⟨v, bx_own hv hg hr, hN.kept hg fun q e cs p h' => ?_⟩, bx_own bP hg hr, bx_own bK hg hr, ⟨hg.os.trans kp.os, hg.tape.trans kp.tape, hg.output.trans kp.output, Nat.le_trans kp.size hg.size, fun q hq => (hg.block q (by have := kp.size; omega) (fun e => by have := (hr q e.symm).1; omega)).trans (kp.block q hq)⟩⟩
  obtain ⟨_, o, ho, hc⟩ := hr q e
  rw [ho] at h'
  cases h'
  simp [Obj.isCells] at hc
theorem ShInv.below {w W W' : World} {n k : Nat} {tv : Value} {ss : List (List UInt8)} (hn : n ≤ w.heap.size) (h : ShInv w n tv k ss W) (hb : Below W.heap.size W W') : ShInv w n tv k ss W' := by
  obtain ⟨bT, ⟨v, hv, hN⟩, bP, bK, kp⟩ := h
  exact ⟨(hb.block _ bT.lt).trans bT, ⟨v, (hb.block _ hv.lt).trans hv, hN.below hb⟩, (hb.block _ bP.lt).trans bP, (hb.block _ bK.lt).trans bK, kp.trans (hb.mono (Nat.le_trans hn kp.size))⟩
theorem sh_append {w W w' : World} {n k C : Nat} {tv v v' : Value} {ss : List (List UInt8)} {y : List UInt8} (hn : n ≤ w.heap.size) (bT : Boxed W n 23 tv) (hv : Boxed W (n + 1) 47 v) (hN : NewStr n W v ss) (bP : Boxed W (n + 1 + 1) 23 tv) (bK : Boxed W (n + 1 + 1 + 1) 3 (.int .i64 (k : Int))) (kp : Below n w W)
    (hN' : NewStr n w' v' (ss ++ [y])) (hg : W.grownBy w' v.ownBlock) : Boxed w' (n + 1) 47 v ∧ ShInv w n tv k (ss ++ [y]) (w'.setCell ⟨n + 1, 0, none⟩ v') ∧ KeepsFrom C W (w'.setCell ⟨n + 1, 0, none⟩ v') := by
  have hne : ∀ {D : Nat} {e : TypeId} {z : Value}, Boxed W D e z → e ≠ 9 → some D ≠ v.ownBlock := fun hb he e' => by
    obtain ⟨_, cs, p, h⟩ := hN.block e'.symm
    exact bx_ne hb he cs p h
  have hnW : n ≤ W.heap.size := Nat.le_trans hn kp.size
  have bT1 := bT.kept hg (hne bT (by decide))
  have hv1 := hv.kept hg (hne hv (by decide))
  have bP1 := bP.kept hg (hne bP (by decide))
  have bK1 := bK.kept hg (hne bK (by decide))
  refine ⟨hv1, ⟨bT1.other (by omega) v', ⟨v', hv1.set v', hN'.kept (grownBy_setCell' w' (n + 1) v') fun q e cs p => ?_⟩, bP1.other (by omega) v', bK1.other (by omega) v', kp.trans ?_⟩, ?_⟩
  · cases e
    exact bx_ne hv1 (by decide) cs p
  · exact ((Below.refl n W).grown hg hnW fun j ej => (hN.block ej).1).setCell (p := ⟨n + 1, 0, none⟩) (by show n ≤ n + 1; omega) v'
  · refine KeepsOthers.from ((KeepsOthers.of_grownBy hg fun j o ej hj => ?_).trans (KeepsOthers.setCell _ _ _)) C
    obtain ⟨_, cs, p, h⟩ := hN.block ej
    rw [h] at hj
    cases hj
    rfl

end Go.Proofs.Ytcgljcbpcchcjaa

namespace Go.Proofs.Ytcgljcbpcchcjaa
open Go.Proofs Go.RowKit Go.Shelf Go.Maps

theorem Tr.kids_show (x : Tr) : x.show = Tm.letr x.sy :: (if x.kids = [] then [] else 40 :: (Lib.join (x.kids.map Tr.show) [44] ++ [41])) := by
  cases x with
  | leaf s => simp [Tr.show, Tr.sy, Tr.kids]
  | one s a => simp [Tr.show, Tr.sy, Tr.kids, Lib.join]
  | two s a b => simp [Tr.show, Tr.sy, Tr.kids, Lib.join]

theorem Tm.part_whole {zs : List Int} (he : Tm.err zs = 0) : Tm.part zs 0 = zs := by
  have h := Tm.err_run he
  unfold Tm.part
  rw [Tm.endAt_zero, h]
  simp
theorem join_any {base : Nat} {W : World} {v : Value} {ss : List (List UInt8)} (h : NewStr base W v ss) (hp : 0 < ss.length) (hl : ss.length ≤ 1000) (hj : (Lib.join ss [44]).length ≤ 1000000) :
    Calls Try.prog 25 #[v, .string ⟨#[44]⟩] W fun e w' => e = .returned (sv (Lib.join ss [44])) ∧ Below W.heap.size W w' := by
  obtain ⟨g, c, rfl, h1, h2, h3⟩ := h.at hp
  have e : (ss.map fun l => (⟨l.toArray⟩ : ByteArray)).map (·.data.toList) = ss := by
    rw [List.map_map]
    conv => rhs; rw [← List.map_id ss]
    exact List.map_congr_left fun x _ => rfl
  have hJ := Try.strings_Join g 0 c (ss.map fun l => (⟨l.toArray⟩ : ByteArray)) ⟨#[44]⟩ W h3 h2 (by rw [List.length_map]; omega) (by rw [List.length_map]; omega) (by rw [e]; exact Nat.le_trans hj (by omega))
  rw [e, List.length_map] at hJ
  exact hJ

attribute [local go_sem] Oper.semAt_some

theorem keepsF_below {C : Nat} {W W' : World} (hb : Below W.heap.size W W') : KeepsFrom C W W' := ⟨hb.size, fun k _ _ ho _ => (hb.block k (Array.getElem?_eq_some_iff.1 ho).1).trans ho⟩

set_option maxRecDepth 100000 in
set_option maxHeartbeats 1000000 in
theorem shown_step (zs : List Int) (a : Option Addr) (cap k : Nat) (w : World) (he : Tm.err zs = 0) (hk : k < zs.length) (hI : Ints w.heap.size w a zs) (x : Tr) (hx : x.ok) (hxk : x.knows) (hxf : x.flat = Tm.part zs k)
    (ih : ∀ (p : Nat) (W : World) (y : Tr), k < p → p < zs.length → y.ok → y.knows → y.flat = Tm.part zs p → Ints W.heap.size W a zs → Calls Try.prog 13 #[.slice a zs.length cap, .int .i64 (p : Int)] W fun e W' => e = .returned (sv y.show) ∧ Below W.heap.size W W') :
    Calls Try.prog 13 #[.slice a zs.length cap, .int .i64 (k : Int)] w fun e w' => e = .returned (sv x.show) ∧ Below w.heap.size w w' := by
  obtain ⟨F, hF⟩ : ∃ F, F = Fence.wide := ⟨_, rfl⟩
  refine (callsIn_wide (n := 3)).1 ?_
  rw [← hF]
  obtain ⟨hro, hfn, hdd, hcin⟩ := wide_facts hF
  have HPl : Hid (Pl F) := by rw [hF]; exact wide_pl
  have HF := hid hF
  clear hF
  have hf1 := hfn 13
  have hf2 := hfn 23
  have hf3 := hfn 30
  have hf4 := hfn 24
  have hf5 := hfn 25
  clear hfn
  have l30 := Tm.err_len he
  have l30' : (zs.length : Int) ≤ 30 := by omega
  have hk' : (k : Int) < (zs.length : Int) := by omega
  have hsy : x.sy = zs[k]?.getD 0 := by rw [← Tr.sym x, hxf, Tm.sym_part he hk]
  have hrm : Tm.room (zs[k]?.getD 0) = x.kids.length := by rw [← hsy]; exact Tr.room hx
  have hkid : ∀ m (hm : m < x.kids.length), (x.kids[m]).ok ∧ (x.kids[m]).knows ∧ (x.kids[m]).flat = Tm.part zs (Tm.pos zs k m) ∧ k < Tm.pos zs k m ∧ Tm.pos zs k m < zs.length := fun m hm => by
    have e1 := Tr.kid hx (m := m) (c := x.kids[m]) (List.getElem?_eq_getElem hm)
    have hm' : m < Tm.room (zs[k]?.getD 0) := by rw [hrm]; exact hm
    rw [hxf, Tm.kid_part he hk hm'] at e1
    refine ⟨Tr.kids_ok hx _ (List.getElem_mem hm), ?_, e1.symm, Tm.pos_gt _ _ _, ?_⟩
    · intro s hs
      refine hxk s ?_
      rw [Tr.flat_kids x]
      refine List.mem_cons_of_mem _ (List.mem_flatten.2 ⟨_, List.mem_map.2 ⟨_, List.getElem_mem hm, rfl⟩, hs⟩)
    · have h1 := Tm.pos_part he hk m (by omega)
      have h2 := Tm.pos_in (Tm.part_err he hk) (m := m) (by rw [Tm.sym_part he hk]; exact hm')
      rw [Tm.part_length he hk] at h2
      have h3 := Tm.end_in he hk
      omega
  have hks : Tm.known x.sy = true := hxk _ (by rw [Tr.flat_kids x]; exact List.mem_cons_self)
  have hk2 : x.kids.length ≤ 2 := by rw [← hrm]; exact Tm.room_le _
  have HI := hid hI
  have Hkid := hid hkid
  have IH := hid ih
  obtain ⟨W4, hW4⟩ : ∃ W4, (((w.alloc (.cells #[.slice a zs.length cap] 23)).alloc (.cells #[.slice none 0 0] 47)).alloc (.cells #[.slice a zs.length cap] 23)).alloc (.cells #[.int .i64 (k : Int)] 3) = W4 := ⟨_, rfl⟩
  have hs4 : W4.heap.size = w.heap.size + 1 + 1 + 1 + 1 := by rw [← hW4]; simp
  have I0 : ShInv w w.heap.size (.slice a zs.length cap) k [] W4 := by
    rw [← hW4]
    have b1 := Boxed.new w 23 (.slice a zs.length cap)
    have b2 := Boxed.new (w.alloc (.cells #[.slice a zs.length cap] 23)) 47 (.slice none 0 0)
    have b3 := Boxed.new ((w.alloc (.cells #[.slice a zs.length cap] 23)).alloc (.cells #[.slice none 0 0] 47)) 23 (.slice a zs.length cap)
    have b4 := Boxed.new (((w.alloc (.cells #[.slice a zs.length cap] 23)).alloc (.cells #[.slice none 0 0] 47)).alloc (.cells #[.slice a zs.length cap] 23)) 3 (.int .i64 (k : Int))
    simp only [World.size_alloc] at b2 b3 b4
    exact ⟨((b1.alloc _).alloc _).alloc _, ⟨_, (b2.alloc _).alloc _, NewStr.nil _ _⟩, b3.alloc _, b4, ((((Below.refl _ w).alloc (Nat.le_refl _) _).alloc (by simp) _).alloc (by simp; omega) _).alloc (by simp; omega) _⟩
  have HI0 := hid I0
  have HW4 := hid hW4
  have cT0 := (Boxed.new w 23 (.slice a zs.length cap)).alloc (.cells #[.slice none 0 0] 47) |>.cell
  clear hI hkid ih I0 hW4
  refine callsIn_of_wp_marks Try.func13 rfl hf1 ?_ hro
  simp only [Try.ntmps13, List.size_toArray, List.length_cons, List.length_nil, Nat.reduceAdd, Nat.reduceSub, Array.replicate_succ, Array.replicate_zero, List.push_toArray, List.append_toArray, List.nil_append, List.cons_append]
  gi_wp2_with ((try refine ⟨hdd _, ?_⟩); gi_at_call 23; refine (partsx_in F HPl.out _ _ _ _ _ _).mono ?_; rintro e w' ⟨rfl, rfl⟩)
  rw [HW4.out]
  clear cT0
  refine wpIn_rangeSteps hro (by omega) (gf := 30) (lb := #[.pointer (some ⟨w.heap.size + 1 + 1 + 1, 0, none⟩), .pointer (some ⟨w.heap.size + 1 + 1, 0, none⟩)]) rfl hf3 (enters_of Try.func30 (by kernel_rfl) rfl)
    (parts_steps F HPl.out _ (w.heap.size + 1 + 1 + 1) (w.heap.size + 1 + 1) k cap a zs (by omega) hk (ends_beyond F HPl.out zs (by omega) _ cap k)) (fun _ => rfl)
    (fun m W => ShInv w w.heap.size (.slice a zs.length cap) k ((x.kids.take m).map Tr.show) W) (fun _ _ => False) (fun _ _ => False) (.inl fun _ _ h => h)
    (by
      rintro m X Y row hi hg hr
      exact hi.own (Nat.le_refl _) (by omega) hg hr)
    (by
      rintro c X Y row hi hg hr
      exact hi)
    (fun m W hi => ⟨hi.bK.cell, hi.bP.cell, (HI.out.below hi.kp).mono hi.kp.size⟩)
    (by simpa using HI0.out)
    (fun m => { tmps := #[.slice a zs.length cap, .int .i64 (k : Int), .pointer (some ⟨w.heap.size, 0, none⟩), undef, .string ⟨#[]⟩, .pointer (some ⟨w.heap.size + 1, 0, none⟩), .int .i64 (Tm.pos zs k m : Int), .slice a zs.length cap, .int .i64 (k : Int), .func (.func 30) #[] #[.pointer (some ⟨w.heap.size + 1 + 1 + 1, 0, none⟩), .pointer (some ⟨w.heap.size + 1 + 1, 0, none⟩)], .int .i64 (Tm.pos zs k m : Int), .int .i64 (Tm.pos zs k (m + 1) : Int),
      undef, undef, undef, undef, undef, undef, undef, undef, undef, undef, undef, undef, undef, undef, undef, undef, undef, undef, undef, undef, undef, undef, undef, undef], defers := [] }) ?assign ?body ?done ?stop ?panic
  case assign =>
    intro l m W K hK
    simp only [encPart]
    gi_wp2
    exact hK
  case body =>
    rintro l m W hi hm
    rw [hrm] at hm
    obtain ⟨y1, y2, y3, y4, y5⟩ := Hkid.out m hm
    have hsn : (x.kids.take (m + 1)).map Tr.show = (x.kids.take m).map Tr.show ++ [(x.kids[m]).show] := by
      rw [List.take_succ_eq_append_getElem hm, List.map_append]; rfl
    have hsl : ((x.kids.take m).map Tr.show).length ≤ 2 := by rw [List.length_map, List.length_take]; omega
    have Hsn := hid hsn
    have hBd : Below W.heap.size W W.drew := below_drewN (Below.refl _ W) 1
    have Hc := hid (CallsIn.inRound l (hcin (n := 0) (IH.out (Tm.pos zs k m) W.drew (x.kids[m]) y4 y5 y1 y2 y3 (by have hb := hi.kp.trans (hBd.mono hi.kp.size); exact (HI.out.below hb).mono hb.size))))
    obtain ⟨bT, ⟨v, hv, hN⟩, bP, bK, kp⟩ := hi
    obtain ⟨va, vc, rfl⟩ := hN.slice
    generalize (x.kids.take m).map Tr.show = ss at *
    generalize (x.kids[m]).show = ys at *
    generalize Tm.pos zs k m = pm at *
    have e1 := hv.cell
    have e2 := bT.cell
    have Hcell := hid (fun W1 (hB1 : Below W.drew.heap.size W.drew W1) => show W1.cell? ⟨w.heap.size + 1, 0, none⟩ = some (.slice va ss.length vc) ∧ ∀ o, (W1.alloc o).cell? ⟨w.heap.size + 1, 0, none⟩ = some (.slice va ss.length vc) from
      ⟨(hB1.cell (p := ⟨w.heap.size + 1, 0, none⟩) hv.lt).trans e1, fun o => (World.cell?_of_block (a := ⟨w.heap.size + 1, 0, none⟩) (Below.heap_alloc W1 o (w.heap.size + 1) (Nat.lt_of_lt_of_le hv.lt hB1.size))).trans ((hB1.cell (p := ⟨w.heap.size + 1, 0, none⟩) hv.lt).trans e1)⟩)
    have hbo : ∀ W1 (hB1 : Below W.drew.heap.size W.drew W1) (o : Obj), Below W.heap.size W (W1.alloc o) := fun W1 hB1 o => (hBd.trans (hB1.mono hBd.size)).alloc (by have h := hB1.size; exact h) o
    have Hst := hid (fun W1 (hB1 : Below W.drew.heap.size W.drew W1) => hN.below (hbo W1 hB1 (.cells #[sv ys] 9)))
    have hnW := hid (show w.heap.size ≤ W.drew.heap.size from kp.size)
    have Hap := hid (fun W1 (hB1 : Below W.drew.heap.size W.drew W1) v' W2 (hN2 : NewStr w.heap.size W2 v' (ss ++ [ys])) (hg2 : (W1.alloc (.cells #[sv ys] 9)).grownBy W2 (Value.slice va ss.length vc).ownBlock) => by
      have hb := hbo W1 hB1 (.cells #[sv ys] 9)
      have hb2 : Below w.heap.size w (W1.alloc (.cells #[sv ys] 9)) := kp.trans (hb.mono kp.size)
      have h := sh_append (C := W4.heap.size) (Nat.le_refl _) ((hb.block _ bT.lt).trans bT) ((hb.block _ hv.lt).trans hv) (hN.below hb) ((hb.block _ bP.lt).trans bP) ((hb.block _ bK.lt).trans bK) hb2 hN2 hg2
      exact (show Boxed W2 (w.heap.size + 1) 47 (.slice va ss.length vc) ∧ ShInv w w.heap.size (.slice a zs.length cap) k (ss ++ [ys]) (W2.setCell ⟨w.heap.size + 1, 0, none⟩ v') ∧ KeepsFrom W4.heap.size W (W2.setCell ⟨w.heap.size + 1, 0, none⟩ v') from ⟨h.1, h.2.1, (keepsF_below hb).trans h.2.2⟩))
    have mixed : Try.prog.follows .mixedOrders = true := by kernel_rfl
    clear y1 y2 y3 y4 y5 hsn bT hv hN bP bK kp hbo Hkid IH HI0
    gi_wp2_with fail
    refine wpIn_region_round hro (by kernel_rfl) mixed ?_
    show wpAnyIn F _ _ _ _ _ 7 (Array.replicate 7 false) _ _
    refine wpAnyIn_take (i := 2) (v := .int .i64 (pm : Int)) hro rfl (by kernel_rfl) (by kernel_rfl) (by kernel_rfl) (fun _ _ _ h => h.2.2.elim) ⟨Or.inl ⟨by rfl, fun w => by go_simp⟩, fun _ => rfl⟩ ?_
    refine wpAnyIn_ready (rs := [0, 1]) (by kernel_rfl) (by simp) ?_
    refine AllReadyIn.cons rfl (fun K hK => ?_) (AllReadyIn.cons rfl (fun K hK => ?_) AllReadyIn.nil)
    · go_simp
      refine hK _ _ ?_
      clear hK K
      refine wpAnyIn_ready (rs := [1]) (by kernel_rfl) (by simp) ?_
      refine AllReadyIn.cons rfl (fun K hK => ?_) AllReadyIn.nil
      go_simp
      refine hK _ _ ?_
      clear hK K
      refine wpAnyIn_ready (rs := [3]) (by kernel_rfl) (by simp) ?_
      refine AllReadyIn.cons rfl (fun K hK => ?_) AllReadyIn.nil
      go_simp
      gi_wp2_with (first | ((try refine ⟨hdd _, ?_⟩); gi_at_call 13; refine Hc.out.mono ?_; rintro e W1 ⟨rfl, hB1⟩; have c1 := (Hcell.out W1 hB1).1; have c2 := (Hcell.out W1 hB1).2))
      refine wpAnyIn_ready (rs := [4]) (by kernel_rfl) (by simp) ?_
      refine AllReadyIn.cons rfl (fun K hK => ?_) AllReadyIn.nil
      go_simp
      refine hK _ _ ?_
      clear hK K
      refine wpAnyIn_ready (rs := [5]) (by kernel_rfl) (by simp) ?_
      refine AllReadyIn.cons rfl (fun K hK => ?_) AllReadyIn.nil
      rw [if_pos (by rfl)]
      refine opi_append_str _ _ _ rfl w.heap.size _ ss rfl (Hst.out W1 hB1) W1.heap.size ys rfl (cell_new _ _ _ _ rfl) (by omega) (by have := hnW.out; have := hB1.size; simp; omega) ?_
      intro v' W2 hN2 hg2
      refine hK _ _ ?_
      clear hK K
      obtain ⟨hb2, hv2, hk2⟩ := Hap.out W1 hB1 v' W2 hN2 hg2
      have f1 := hb2.cell
      have f2 := hb2.frozen
      obtain ⟨a2, c2, rfl⟩ := hN2.slice
      simp only [List.length_append, List.length_cons, List.length_nil, Nat.zero_add] at hk2 hv2
      refine wpAnyIn_ready (rs := [6]) (by kernel_rfl) (by simp) ?_
      refine AllReadyIn.cons rfl (fun K hK => ?_) AllReadyIn.nil
      go_simp
      refine hK _ _ ?_
      clear hK K
      refine wpAnyIn_done (by kernel_rfl) ?_ _
      exact ⟨hk2, by show ShInv w w.heap.size (.slice a zs.length cap) k ((x.kids.take (m + 1)).map Tr.show) _; rw [Hsn.out]; exact hv2⟩
    · go_simp
      refine hK _ _ ?_
      clear hK K
      refine wpAnyIn_ready (rs := [0, 3]) (by kernel_rfl) (by simp) ?_
      refine AllReadyIn.cons rfl (fun K hK => ?_) (AllReadyIn.cons rfl (fun K hK => ?_) AllReadyIn.nil)
      · go_simp
        refine hK _ _ ?_
        clear hK K
        refine wpAnyIn_ready (rs := [3]) (by kernel_rfl) (by simp) ?_
        refine AllReadyIn.cons rfl (fun K hK => ?_) AllReadyIn.nil
        go_simp
        gi_wp2_with (first | ((try refine ⟨hdd _, ?_⟩); gi_at_call 13; refine Hc.out.mono ?_; rintro e W1 ⟨rfl, hB1⟩; have c1 := (Hcell.out W1 hB1).1; have c2 := (Hcell.out W1 hB1).2))
        refine wpAnyIn_ready (rs := [4]) (by kernel_rfl) (by simp) ?_
        refine AllReadyIn.cons rfl (fun K hK => ?_) AllReadyIn.nil
        go_simp
        refine hK _ _ ?_
        clear hK K
        refine wpAnyIn_ready (rs := [5]) (by kernel_rfl) (by simp) ?_
        refine AllReadyIn.cons rfl (fun K hK => ?_) AllReadyIn.nil
        rw [if_pos (by rfl)]
        refine opi_append_str _ _ _ rfl w.heap.size _ ss rfl (Hst.out W1 hB1) W1.heap.size ys rfl (cell_new _ _ _ _ rfl) (by omega) (by have := hnW.out; have := hB1.size; simp; omega) ?_
        intro v' W2 hN2 hg2
        refine hK _ _ ?_
        clear hK K
        obtain ⟨hb2, hv2, hk2⟩ := Hap.out W1 hB1 v' W2 hN2 hg2
        have f1 := hb2.cell
        have f2 := hb2.frozen
        obtain ⟨a2, c2, rfl⟩ := hN2.slice
        simp only [List.length_append, List.length_cons, List.length_nil, Nat.zero_add] at hk2 hv2
        refine wpAnyIn_ready (rs := [6]) (by kernel_rfl) (by simp) ?_
        refine AllReadyIn.cons rfl (fun K hK => ?_) AllReadyIn.nil
        go_simp
        refine hK _ _ ?_
        clear hK K
        refine wpAnyIn_done (by kernel_rfl) ?_ _
        exact ⟨hk2, by show ShInv w w.heap.size (.slice a zs.length cap) k ((x.kids.take (m + 1)).map Tr.show) _; rw [Hsn.out]; exact hv2⟩
      · go_simp
        gi_wp2_with (first | ((try refine ⟨hdd _, ?_⟩); gi_at_call 13; refine Hc.out.mono ?_; rintro e W1 ⟨rfl, hB1⟩; have c1 := (Hcell.out W1 hB1).1; have c2 := (Hcell.out W1 hB1).2))
        refine wpAnyIn_ready (rs := [0, 4]) (by kernel_rfl) (by simp) ?_
        refine AllReadyIn.cons rfl (fun K hK => ?_) (AllReadyIn.cons rfl (fun K hK => ?_) AllReadyIn.nil)
        · go_simp
          refine hK _ _ ?_
          clear hK K
          refine wpAnyIn_ready (rs := [4]) (by kernel_rfl) (by simp) ?_
          refine AllReadyIn.cons rfl (fun K hK => ?_) AllReadyIn.nil
          go_simp
          refine hK _ _ ?_
          clear hK K
          refine wpAnyIn_ready (rs := [5]) (by kernel_rfl) (by simp) ?_
          refine AllReadyIn.cons rfl (fun K hK => ?_) AllReadyIn.nil
          rw [if_pos (by rfl)]
          refine opi_append_str _ _ _ rfl w.heap.size _ ss rfl (Hst.out W1 hB1) W1.heap.size ys rfl (cell_new _ _ _ _ rfl) (by omega) (by have := hnW.out; have := hB1.size; simp; omega) ?_
          intro v' W2 hN2 hg2
          refine hK _ _ ?_
          clear hK K
          obtain ⟨hb2, hv2, hk2⟩ := Hap.out W1 hB1 v' W2 hN2 hg2
          have f1 := hb2.cell
          have f2 := hb2.frozen
          obtain ⟨a2, c2, rfl⟩ := hN2.slice
          simp only [List.length_append, List.length_cons, List.length_nil, Nat.zero_add] at hk2 hv2
          refine wpAnyIn_ready (rs := [6]) (by kernel_rfl) (by simp) ?_
          refine AllReadyIn.cons rfl (fun K hK => ?_) AllReadyIn.nil
          go_simp
          refine hK _ _ ?_
          clear hK K
          refine wpAnyIn_done (by kernel_rfl) ?_ _
          exact ⟨hk2, by show ShInv w w.heap.size (.slice a zs.length cap) k ((x.kids.take (m + 1)).map Tr.show) _; rw [Hsn.out]; exact hv2⟩
        · go_simp
          refine hK _ _ ?_
          clear hK K
          refine wpAnyIn_ready (rs := [0]) (by kernel_rfl) (by simp) ?_
          refine AllReadyIn.cons rfl (fun K hK => ?_) AllReadyIn.nil
          go_simp
          refine hK _ _ ?_
          clear hK K
          refine wpAnyIn_ready (rs := [5]) (by kernel_rfl) (by simp) ?_
          refine AllReadyIn.cons rfl (fun K hK => ?_) AllReadyIn.nil
          rw [if_pos (by rfl)]
          refine opi_append_str _ _ _ rfl w.heap.size _ ss rfl (Hst.out W1 hB1) W1.heap.size ys rfl (cell_new _ _ _ _ rfl) (by omega) (by have := hnW.out; have := hB1.size; simp; omega) ?_
          intro v' W2 hN2 hg2
          refine hK _ _ ?_
          clear hK K
          obtain ⟨hb2, hv2, hk2⟩ := Hap.out W1 hB1 v' W2 hN2 hg2
          have f1 := hb2.cell
          have f2 := hb2.frozen
          obtain ⟨a2, c2, rfl⟩ := hN2.slice
          simp only [List.length_append, List.length_cons, List.length_nil, Nat.zero_add] at hk2 hv2
          refine wpAnyIn_ready (rs := [6]) (by kernel_rfl) (by simp) ?_
          refine AllReadyIn.cons rfl (fun K hK => ?_) AllReadyIn.nil
          go_simp
          refine hK _ _ ?_
          clear hK K
          refine wpAnyIn_done (by kernel_rfl) ?_ _
          exact ⟨hk2, by show ShInv w w.heap.size (.slice a zs.length cap) k ((x.kids.take (m + 1)).map Tr.show) _; rw [Hsn.out]; exact hv2⟩
  case done =>
    rintro D W hD hi hDd
    have hi' : ShInv w w.heap.size (.slice a zs.length cap) k (x.kids.map Tr.show) W := by
      have h : ShInv w w.heap.size (.slice a zs.length cap) k ((x.kids.take (Tm.room (zs[k]?.getD 0))).map Tr.show) W := hi
      rw [hrm, List.take_length] at h
      exact h
    clear hi
    have hsh := Tr.kids_show x
    have hxl := Tr.show_len x
    have hxl2 : x.flat.length ≤ 30 := by rw [hxf, Tm.part_length he hk]; have := Tm.end_in he hk; omega
    obtain ⟨b, off, rfl, hb, hc⟩ := ((HI.out.below hi'.kp).mono hi'.kp.size).at (by omega)
    have hck := hc k hk
    have hCl := hid (fun V n => hcin (n := n) (letter_any x.sy V hks))
    rw [← hsy] at hck
    obtain ⟨bT, ⟨v, hv, hN⟩, bP, bK, kp⟩ := hi'
    have cT := bT.cell
    have cV := hv.cell
    by_cases hnil : x.kids = []
    · rw [hnil, List.map_nil] at hN
      obtain ⟨va, vc, rfl⟩ := hN.slice
      rw [if_pos hnil] at hsh
      have Hsh := hid hsh
      have Hkp := hid kp
      clear hc hN bT hv bP bK Hkid IH HI0 HI kp hsh hxl hnil hks hsy hrm hxf hxl2
      gi_wp2_with ((try refine ⟨hdd _, ?_⟩); gi_at_call 24; refine (hCl.out _ _).mono ?_; rintro e W ⟨rfl, rfl⟩)
      refine ⟨by simp, .inl ⟨_, _, rfl, run_takeDeferred hDd, ?_⟩⟩
      refine ⟨_, results_tmp rfl _ _ _, ?_, Hkp.out.trans (belowK_b (w := w) (Nat.le_refl _) W D _ _ (by omega) hDd rfl rfl)⟩
      rw [Hsh.out]
      rfl
    · rw [if_neg hnil] at hsh
      have hkp : 0 < (x.kids.map Tr.show).length := by
        rw [List.length_map]
        exact List.length_pos_iff.2 hnil
      have hkl : (x.kids.map Tr.show).length ≤ 2 := by rw [List.length_map]; exact hk2
      have hjl : (Lib.join (x.kids.map Tr.show) [44]).length ≤ 200 := by
        rw [hsh] at hxl
        simp only [List.length_cons, List.length_append, List.length_nil] at hxl
        omega
      obtain ⟨va, vc, ev, _⟩ := hN.at hkp
      subst ev
      have Hsh := hid hsh
      have Hkp := hid kp
      have hnz : (((x.kids.map Tr.show).length : Int) == 0) = false := by rw [beq_eq_false_iff_ne]; omega
      have hCj := hid (fun V (hV : Below W.heap.size W V) => join_any (hN.below hV) hkp (by omega) (by omega))
      have hS := hid (fun V (hV : Below W.heap.size W V) => (show V.cell? ⟨w.heap.size, 0, none⟩ = some (.slice (some ⟨b, off, none⟩) zs.length cap) ∧ V.cell? ⟨w.heap.size + 1, 0, none⟩ = some (.slice (some ⟨va, 0, none⟩) (x.kids.map Tr.show).length vc) ∧ V.cell? ⟨b, off + k, none⟩ = some (.int .i64 x.sy) from
        ⟨(hV.cell (p := ⟨w.heap.size, 0, none⟩) bT.lt).trans cT, (hV.cell (p := ⟨w.heap.size + 1, 0, none⟩) hv.lt).trans cV, (hV.cell (p := ⟨b, off + k, none⟩) (by simpa using lt_of_cell hck)).trans hck⟩))
      have hCl2 := hid (fun V => letter_any x.sy V hks)
      clear hc hN bT hv bP bK Hkid IH HI0 HI kp hsh hxl hnil hks hkp hCl hsy hrm hxf hxl2
      generalize Tm.letr x.sy = bl at *
      generalize x.sy = s at *
      generalize Lib.join (x.kids.map Tr.show) [44] = jj at *
      generalize (x.kids.map Tr.show).length = nl at *
      gi_wp2_with fail
      rw [HF.out]
      refine wpIn_wide.2 ?_
      have q8 : ¬ 9223372036854775807 < 2 + jj.length := by omega
      have q9 : ¬ 9223372036854775807 < 2 + jj.length + 1 := by omega
      have hBd : Below W.heap.size W W.drew := below_drewN (Below.refl _ W) 1
      have hS0 := hS.out W (Below.refl _ W)
      have hSd := hS.out W.drew hBd
      go_region_held3 (fun w' => w'.cell? ⟨w.heap.size, 0, none⟩ = some (.slice (some ⟨b, off, none⟩) zs.length cap) ∧ w'.cell? ⟨w.heap.size + 1, 0, none⟩ = some (.slice (some ⟨va, 0, none⟩) nl vc) ∧ w'.cell? ⟨b, off + k, none⟩ = some (.int .i64 s)) (first | assumption | exact hS0 | exact hSd | exact hS1) (first
        | (go_at_call 24; refine (hCl2.out W.drew).mono ?_; rintro e w' ⟨rfl, rfl⟩)
        | (go_at_call 25; refine (hCj.out W.drew hBd).mono ?_; rintro e W1 ⟨rfl, hB1⟩; have hB1' := hBd.trans (hB1.mono hBd.size); have hS1 := hS.out W1 hB1'))
      gi_wp2
      have hDd2 : W1.heap[D]? = some (.deferred (some [])) := (hB1'.block D (Array.getElem?_eq_some_iff.1 hDd).1).trans hDd
      refine ⟨by simp, .inl ⟨_, _, rfl, run_takeDeferred hDd2, ?_⟩⟩
      refine ⟨_, results_tmp rfl _ _ _, ?_, (Hkp.out.trans (hB1'.mono Hkp.out.size)).trans (belowK_b (w := w) (Nat.le_refl _) W1 D _ _ (by omega) hDd2 rfl rfl)⟩
      rw [Hsh.out]
      simp only [sv_cat]
      simp
  case stop =>
    rintro D c W _ h _
    exact h.elim
  case panic => exact fun _ _ _ _ h => h.elim

theorem shown_all (zs : List Int) (a : Option Addr) (cap : Nat) (he : Tm.err zs = 0) : ∀ (m k : Nat) (x : Tr) (w : World), zs.length - k ≤ m → k < zs.length → x.ok → x.knows → x.flat = Tm.part zs k → Ints w.heap.size w a zs →
    Calls Try.prog 13 #[.slice a zs.length cap, .int .i64 (k : Int)] w fun e w' => e = .returned (sv x.show) ∧ Below w.heap.size w w' := by
  intro m
  induction m with
  | zero => intro k x w h1 h2; omega
  | succ m ih =>
    intro k x w h1 h2 h3 h4 h5 h6
    exact shown_step zs a cap k w he h2 h6 x h3 h4 h5 (fun p W y g1 g2 g3 g4 g5 g6 => ih p y W (by omega) g2 g3 g4 g5 g6)

/-- What text.Show answers. -/
def Tm.ShowSays (t : List Int) (l : List UInt8) (e : Int) : Prop := (e = 0 ∧ Tm.err t = 0 ∧ ∃ x : Tr, x.ok ∧ x.knows ∧ x.flat = t ∧ x.flat.length ≤ 30 ∧ l = x.show) ∨ (e ≠ 0 ∧ e = Tm.err t ∧ l = [])
set_option maxRecDepth 100000 in
set_option maxHeartbeats 1000000 in
theorem show_any (t : List Int) (a : Option Addr) (cap : Nat) (w : World) (hI : Ints w.heap.size w a t) :
    Calls Try.prog 5 #[.slice a t.length cap] w fun e w' => ∃ l er, Tm.ShowSays t l er ∧ e = .returned (.tuple #[sv l, .int .i64 er]) ∧ Below w.heap.size w w' := by
  have hC := hid (check_any t a cap w hI)
  by_cases he : Tm.err t = 0
  · obtain ⟨x, x1, x2, x3, x4⟩ := Tr.of_right he
    have hS := hid (fun W (hW : Below w.heap.size w W) => shown_all t a cap he t.length 0 x W (by omega) (Tm.err_pos he) x1 x2 (by rw [x3, Tm.part_whole he]) ((hI.below hW).mono hW.size))
    have Hsay : Hid (Tm.ShowSays t x.show 0) := .inl ⟨rfl, he, x, x1, x2, x3, x4, rfl⟩
    rw [he] at hC
    clear he x1 x2 x3 x4 hI
    generalize x.show = l at *
    go_enter Try.func5, Try.ntmps5
    go_wp2_with fail
    refine hC.out.mono ?_
    rintro e w1 ⟨rfl, b1⟩
    go_wp2_with fail
    refine (hS.out w1 b1).mono ?_
    rintro e w2 ⟨rfl, b2⟩
    go_wp2
    go_ret2
    exact ⟨l, 0, Hsay.out, rfl, b1.trans (b2.mono b1.size)⟩
  · have Hsay : Hid (Tm.ShowSays t [] (Tm.err t)) := .inr ⟨he, rfl, rfl⟩
    have hne : (Tm.err t != 0) = true := by simpa using he
    clear he hI
    generalize Tm.err t = q at *
    go_enter Try.func5, Try.ntmps5
    go_wp2_with fail
    refine hC.out.mono ?_
    rintro e w1 ⟨rfl, b1⟩
    go_wp2
    go_ret2
    exact ⟨[], q, Hsay.out, rfl, b1⟩

end Go.Proofs.Ytcgljcbpcchcjaa

namespace Go.Proofs.Ytcgljcbpcchcjaa
open Go.Proofs Go.RowKit Go.Shelf Go.Maps

/-- The reader in memory: what is left of the text, and the signs so far. -/
def Rd2 (W : World) (R : Nat) (x y : Value) : Prop := W.heap[R]? = some (.cells #[x, y] 62 (0, 0))
theorem Rd2.lt {W : World} {R : Nat} {x y : Value} (h : Rd2 W R x y) : R < W.heap.size := (Array.getElem?_eq_some_iff.1 h).1
theorem Rd2.cell0 {W : World} {R : Nat} {x y : Value} (h : Rd2 W R x y) : W.cell? ⟨R, 0, none⟩ = some x := by simp [World.cell?, show W.heap[R]? = _ from h]
theorem Rd2.cell1 {W : World} {R : Nat} {x y : Value} (h : Rd2 W R x y) : W.cell? ⟨R, 1, none⟩ = some y := by simp [World.cell?, show W.heap[R]? = _ from h]
theorem Rd2.frozen {W : World} {R : Nat} {x y : Value} (h : Rd2 W R x y) (i : Nat) : W.frozen? ⟨R, i, none⟩ = false := by simp [World.frozen?, show W.heap[R]? = _ from h]
theorem Rd2.new (W : World) (x y : Value) : Rd2 (W.alloc (.cells #[x, y] 62)) W.heap.size x y := World.alloc_heap_new W _
theorem Rd2.kept {W W' : World} {row : Option Nat} {R : Nat} {x y : Value} (h : Rd2 W R x y) (hg : W.grownBy W' row) (hne : some R ≠ row) : Rd2 W' R x y := (hg.block R h.lt hne).trans h
theorem Rd2.set0 {W : World} {R : Nat} {x y : Value} (h : Rd2 W R x y) (v : Value) : Rd2 (W.setCell ⟨R, 0, none⟩ v) R v y := by
  obtain ⟨hlt, hx⟩ := Array.getElem?_eq_some_iff.1 h
  show (W.heap.modify R _)[R]? = _
  rw [Array.getElem?_eq_getElem (by rw [Array.size_modify]; exact hlt), Array.getElem_modify_self, hx]
  rfl
theorem Rd2.set1 {W : World} {R : Nat} {x y : Value} (h : Rd2 W R x y) (v : Value) : Rd2 (W.setCell ⟨R, 1, none⟩ v) R x v := by
  obtain ⟨hlt, hx⟩ := Array.getElem?_eq_some_iff.1 h
  show (W.heap.modify R _)[R]? = _
  rw [Array.getElem?_eq_getElem (by rw [Array.size_modify]; exact hlt), Array.getElem_modify_self, hx]
  rfl

/-- What a reader leaves by. -/
def formChain : List PanicEntry := [{ v := .iface 24 (.int .i64 1), recovered := false }]

set_option maxRecDepth 100000 in
set_option maxHeartbeats 1000000 in
theorem next_nil (R : Nat) (y : Value) (w : World) (h : Rd2 w R (sv []) y) : Calls Try.prog 36 #[.pointer (some ⟨R, 0, none⟩)] w fun e w' => e = .panicked formChain ∧ w' = w := by
  have c0 := h.cell0
  clear h
  go_enter Try.func36, Try.ntmps36
  go_wp2
  exact ⟨rfl, rfl, rfl⟩

theorem sv_tail (b : UInt8) (l : List UInt8) : (⟨(b :: l).toArray⟩ : ByteArray).extract 1 (l.length + 1) = ⟨l.toArray⟩ := by
  apply ByteArray.ext
  rw [ByteArray.data_extract]
  simp

set_option maxRecDepth 100000 in
set_option maxHeartbeats 1000000 in
theorem next_cons (R : Nat) (b : UInt8) (l : List UInt8) (y : Value) (w : World) (hl : l.length ≤ 5000) (h : Rd2 w R (sv (b :: l)) y) : Calls Try.prog 36 #[.pointer (some ⟨R, 0, none⟩)] w fun e w' => e = .returned (.int .u8 (b.toNat : Int)) ∧ w' = w.setCell ⟨R, 0, none⟩ (sv l) := by
  have c0 := h.cell0
  have f0 := h.frozen 0
  clear h
  go_enter Try.func36, Try.ntmps36
  go_wp2
  go_ret
  exact ⟨rfl, by rw [sv_tail]⟩

set_option maxRecDepth 100000 in
set_option maxHeartbeats 1000000 in
theorem mark_yes (R : Nat) (b : UInt8) (l : List UInt8) (y : Value) (w : World) (hl : l.length ≤ 5000) (h : Rd2 w R (sv (b :: l)) y) : Calls Try.prog 37 #[.pointer (some ⟨R, 0, none⟩), .int .u8 (b.toNat : Int)] w fun e w' => e = .returned (.tuple #[]) ∧ w' = w.setCell ⟨R, 0, none⟩ (sv l) := by
  have hC := hid (next_cons R b l y w hl h)
  have hbb : ((b.toNat : Int) != (b.toNat : Int)) = false := by simp
  clear h
  go_enter Try.func37, Try.ntmps37
  go_wp2_with (go_at_call 36; refine hC.out.mono ?_; rintro e w1 ⟨rfl, rfl⟩)
  go_end0
  exact ⟨rfl, rfl⟩
set_option maxRecDepth 100000 in
set_option maxHeartbeats 1000000 in
theorem mark_no (R : Nat) (c : UInt8) (l : List UInt8) (y : Value) (w : World) (hl : l.length ≤ 5000) (h : Rd2 w R (sv l) y) (hm : Tm.mark c l = none) : Calls Try.prog 37 #[.pointer (some ⟨R, 0, none⟩), .int .u8 (c.toNat : Int)] w fun e w' => e = .panicked formChain ∧ Below R w w' := by
  cases l with
  | nil =>
    have hC := hid (next_nil R y w h)
    clear h
    go_enter Try.func37, Try.ntmps37
    go_wp2_with (go_at_call 36; refine hC.out.mono ?_; rintro e w1 ⟨rfl, rfl⟩)
    exact ⟨rfl, rfl, Below.refl _ _⟩
  | cons b l =>
    have hC := hid (next_cons R b l y w (by simp at hl; omega) h)
    have hbb : ((b.toNat : Int) != (c.toNat : Int)) = true := by
      rw [bne_iff_ne]
      intro e
      rw [Tm.mark, if_pos (UInt8.toNat_inj.1 (by omega))] at hm
      cases hm
    clear h hm
    go_enter Try.func37, Try.ntmps37
    go_wp2_with (go_at_call 36; refine hC.out.mono ?_; rintro e w1 ⟨rfl, rfl⟩)
    exact ⟨rfl, rfl, (Below.refl _ _).setCell (p := ⟨R, 0, none⟩) (Nat.le_refl _) _⟩

theorem Tm.sgn_index (b : UInt8) : (0 ≤ Lib.indexByte Tm.symL b ∧ Tm.sgn b = some (Lib.indexByte Tm.symL b)) ∨ (Lib.indexByte Tm.symL b = -1 ∧ ((0 ≤ Lib.indexByte Tm.varL b ∧ Lib.indexByte Tm.varL b ≤ 7 ∧ Tm.sgn b = some (-1 - Lib.indexByte Tm.varL b)) ∨ (Lib.indexByte Tm.varL b = -1 ∧ Tm.sgn b = none))) :=
  byte_all (p := fun b => (0 ≤ Lib.indexByte Tm.symL b ∧ Tm.sgn b = some (Lib.indexByte Tm.symL b)) ∨ (Lib.indexByte Tm.symL b = -1 ∧ ((0 ≤ Lib.indexByte Tm.varL b ∧ Lib.indexByte Tm.varL b ≤ 7 ∧ Tm.sgn b = some (-1 - Lib.indexByte Tm.varL b)) ∨ (Lib.indexByte Tm.varL b = -1 ∧ Tm.sgn b = none)))) (by decide +kernel) b
theorem index_any (s : ByteArray) (b : UInt8) (w : World) : Calls Try.prog 40 #[.string s, .int .u8 (b.toNat : Int)] w fun e w' => e = .returned (.int .i64 (Lib.indexByte s.data.toList b)) ∧ w' = w := by
  have h := Try.strings_IndexByte s (b.toNat : Int) w
  rw [show (b.toNat : Int).toNat.toUInt8 = b by simp] at h
  exact h
set_option maxRecDepth 100000 in
set_option maxHeartbeats 1000000 in
theorem signOf_any (b : UInt8) (w : World) : Calls Try.prog 35 #[.int .u8 (b.toNat : Int)] w fun e w' => w' = w ∧ ((∃ s, Tm.sgn b = some s ∧ e = .returned (.int .i64 s)) ∨ (Tm.sgn b = none ∧ e = .panicked formChain)) := by
  have h1 := hid (fun W => index_any ⟨#[97, 98, 103, 104, 102, 107]⟩ b W)
  have h2 := hid (fun W => index_any ⟨#[120, 121, 122, 119, 112, 113, 114, 115]⟩ b W)
  rw [show (⟨#[97, 98, 103, 104, 102, 107]⟩ : ByteArray).data.toList = Tm.symL from rfl] at h1
  rw [show (⟨#[120, 121, 122, 119, 112, 113, 114, 115]⟩ : ByteArray).data.toList = Tm.varL from rfl] at h2
  have hc := Tm.sgn_index b
  generalize Tm.sgn b = q at *
  generalize Lib.indexByte Tm.symL b = i1 at *
  generalize Lib.indexByte Tm.varL b = i2 at *
  rcases hc with ⟨g1, rfl⟩ | ⟨rfl, ⟨g1, g2, rfl⟩ | ⟨rfl, rfl⟩⟩
  · go_enter Try.func35, Try.ntmps35
    go_wp2_with (go_at_call 40; refine (h1.out w).mono ?_; rintro e w ⟨rfl, rfl⟩)
    go_ret
    exact ⟨rfl, .inl ⟨_, rfl, rfl⟩⟩
  · go_enter Try.func35, Try.ntmps35
    go_wp2_with fail
    refine (h1.out w).mono ?_
    rintro e w ⟨rfl, rfl⟩
    go_wp2_with fail
    refine (h2.out w).mono ?_
    rintro e w ⟨rfl, rfl⟩
    go_wp2
    go_ret
    exact ⟨rfl, .inl ⟨_, rfl, rfl⟩⟩
  · go_enter Try.func35, Try.ntmps35
    go_wp2_with fail
    refine (h1.out w).mono ?_
    rintro e w ⟨rfl, rfl⟩
    go_wp2_with fail
    refine (h2.out w).mono ?_
    rintro e w ⟨rfl, rfl⟩
    go_wp2
    exact ⟨rfl, rfl, .inr ⟨trivial, rfl⟩⟩

end Go.Proofs.Ytcgljcbpcchcjaa

namespace Go.Proofs.Ytcgljcbpcchcjaa
open Go.Proofs Go.RowKit Go.Shelf Go.Maps

theorem New.setR {R i : Nat} {W : World} {v x : Value} {zs : List Int} (h : New (R + 1) W v zs) : New (R + 1) (W.setCell ⟨R, i, none⟩ x) v zs :=
  ⟨h.1, h.2.elim .inl fun ⟨g, c, cur, h1, h2, h3, h4⟩ => .inr ⟨g, c, cur, h1, h2, (Below.heap_setCell W ⟨R, i, none⟩ x g (show g ≠ R by omega)).trans h3, h4⟩⟩
theorem Tm.rd_rest {f m : Nat} {l : List UInt8} {a : List Int} {r : List UInt8} (h : Tm.rd f m l = some (a, r)) : r.length ≤ l.length ∧ a.length ≤ m := by
  obtain ⟨x, _, _, _, h1, h2⟩ := Tm.rd_sound _ _ _ _ _ h
  exact ⟨by rw [h1, List.length_append]; omega, h2⟩
/-- What the reader leaves. -/
def TermAns (f m R : Nat) (l : List UInt8) (zs : List Int) (w : World) (e : Ending) (w' : World) : Prop :=
  Below R w w' ∧ ((∃ a r v', Tm.rd f m l = some (a, r) ∧ e = .returned (.tuple #[]) ∧ Rd2 w' R (sv r) v' ∧ New (R + 1) w' v' (zs ++ a)) ∨ (Tm.rd f m l = none ∧ e = .panicked formChain))

theorem Tm.rd_s0 {f m : Nat} {c : UInt8} {l : List UInt8} {s : Int} (h : Tm.sgn c = some s) (hr : Tm.room s = 0) : Tm.rd (f + 1) (m + 1) (c :: l) = some ([s], l) := by
  rw [Tm.rd, h, Option.bind_some, if_pos hr]
theorem Tm.rd_sn {f m : Nat} {c : UInt8} {l : List UInt8} (h : Tm.sgn c = none) : Tm.rd (f + 1) (m + 1) (c :: l) = none := by rw [Tm.rd, h]; rfl
theorem Tm.rd_m1 {f m : Nat} {c : UInt8} {l : List UInt8} {s : Int} (h : Tm.sgn c = some s) (hr : Tm.room s ≠ 0) (hm : Tm.mark 40 l = none) : Tm.rd (f + 1) (m + 1) (c :: l) = none := by
  rw [Tm.rd, h, Option.bind_some, if_neg hr, hm]; rfl
theorem Tm.rd_t1 {f m : Nat} {c : UInt8} {l : List UInt8} {s : Int} (h : Tm.sgn c = some s) (hr : Tm.room s ≠ 0) (ht : Tm.rd f m l = none) : Tm.rd (f + 1) (m + 1) (c :: 40 :: l) = none := by
  rw [Tm.rd, h, Option.bind_some, if_neg hr, Tm.mark_cons, Option.bind_some, ht]; rfl
theorem Tm.rd_o0 {f m : Nat} {c : UInt8} {l r : List UInt8} {s : Int} {a : List Int} (h : Tm.sgn c = some s) (hr : Tm.room s = 1) (ht : Tm.rd f m l = some (a, r)) (hm : Tm.mark 41 r = none) : Tm.rd (f + 1) (m + 1) (c :: 40 :: l) = none := by
  rw [Tm.rd, h, Option.bind_some, if_neg (by omega), Tm.mark_cons, Option.bind_some, ht, Option.bind_some, if_pos hr, hm]; rfl
theorem Tm.rd_o1 {f m : Nat} {c : UInt8} {l r : List UInt8} {s : Int} {a : List Int} (h : Tm.sgn c = some s) (hr : Tm.room s = 1) (ht : Tm.rd f m l = some (a, 41 :: r)) : Tm.rd (f + 1) (m + 1) (c :: 40 :: l) = some (s :: a, r) := by
  rw [Tm.rd, h, Option.bind_some, if_neg (by omega), Tm.mark_cons, Option.bind_some, ht, Option.bind_some, if_pos hr, Tm.mark_cons]; rfl
theorem Tm.rd_c0 {f m : Nat} {c : UInt8} {l r : List UInt8} {s : Int} {a : List Int} (h : Tm.sgn c = some s) (hr : Tm.room s = 2) (ht : Tm.rd f m l = some (a, r)) (hm : Tm.mark 44 r = none) : Tm.rd (f + 1) (m + 1) (c :: 40 :: l) = none := by
  rw [Tm.rd, h, Option.bind_some, if_neg (by omega), Tm.mark_cons, Option.bind_some, ht, Option.bind_some, if_neg (by omega), hm]; rfl
theorem Tm.rd_c1 {f m : Nat} {c : UInt8} {l r : List UInt8} {s : Int} {a : List Int} (h : Tm.sgn c = some s) (hr : Tm.room s = 2) (ht : Tm.rd f m l = some (a, 44 :: r)) (hq : Tm.rd f (m - a.length) r = none) : Tm.rd (f + 1) (m + 1) (c :: 40 :: l) = none := by
  rw [Tm.rd, h, Option.bind_some, if_neg (by omega), Tm.mark_cons, Option.bind_some, ht, Option.bind_some, if_neg (by omega), Tm.mark_cons, Option.bind_some, hq]; rfl
theorem Tm.rd_d0 {f m : Nat} {c : UInt8} {l r q : List UInt8} {s : Int} {a b : List Int} (h : Tm.sgn c = some s) (hr : Tm.room s = 2) (ht : Tm.rd f m l = some (a, 44 :: r)) (hq : Tm.rd f (m - a.length) r = some (b, q)) (hm : Tm.mark 41 q = none) : Tm.rd (f + 1) (m + 1) (c :: 40 :: l) = none := by
  rw [Tm.rd, h, Option.bind_some, if_neg (by omega), Tm.mark_cons, Option.bind_some, ht, Option.bind_some, if_neg (by omega), Tm.mark_cons, Option.bind_some, hq, Option.bind_some, hm]; rfl
theorem Tm.rd_d1 {f m : Nat} {c : UInt8} {l r q : List UInt8} {s : Int} {a b : List Int} (h : Tm.sgn c = some s) (hr : Tm.room s = 2) (ht : Tm.rd f m l = some (a, 44 :: r)) (hq : Tm.rd f (m - a.length) r = some (b, 41 :: q)) : Tm.rd (f + 1) (m + 1) (c :: 40 :: l) = some (s :: (a ++ b), q) := by
  rw [Tm.rd, h, Option.bind_some, if_neg (by omega), Tm.mark_cons, Option.bind_some, ht, Option.bind_some, if_neg (by omega), Tm.mark_cons, Option.bind_some, hq, Option.bind_some, Tm.mark_cons]; rfl

theorem mark_yes' (R : Nat) (b : UInt8) (n : Int) (hn : (b.toNat : Int) = n) (l : List UInt8) (y : Value) (w : World) (hl : l.length ≤ 5000) (h : Rd2 w R (sv (b :: l)) y) : Calls Try.prog 37 #[.pointer (some ⟨R, 0, none⟩), .int .u8 n] w fun e w' => e = .returned (.tuple #[]) ∧ w' = w.setCell ⟨R, 0, none⟩ (sv l) := by
  subst hn
  exact mark_yes R b l y w hl h
theorem mark_no' (R : Nat) (c : UInt8) (n : Int) (hn : (c.toNat : Int) = n) (l : List UInt8) (y : Value) (w : World) (hl : l.length ≤ 5000) (h : Rd2 w R (sv l) y) (hm : Tm.mark c l = none) : Calls Try.prog 37 #[.pointer (some ⟨R, 0, none⟩), .int .u8 n] w fun e w' => e = .panicked formChain ∧ Below R w w' := by
  subst hn
  exact mark_no R c l y w hl h hm

set_option maxRecDepth 100000 in
set_option maxHeartbeats 4000000 in
theorem term_step (f m R : Nat) (l : List UInt8) (zs : List Int) (v : Value) (w : World) (hmf : m ≤ f + 1) (hzm : zs.length + m = 30) (hl : l.length ≤ 5000) (hR : Rd2 w R (sv l) v) (hN : New (R + 1) w v zs)
    (ih : ∀ (m' : Nat) (l' : List UInt8) (zs' : List Int) (v' : Value) (w' : World), m' ≤ f → zs'.length + m' = 30 → l'.length ≤ 5000 → Rd2 w' R (sv l') v' → New (R + 1) w' v' zs' → Calls Try.prog 29 #[.pointer (some ⟨R, 0, none⟩)] w' fun e W => TermAns f m' R l' zs' w' e W) :
    Calls Try.prog 29 #[.pointer (some ⟨R, 0, none⟩)] w fun e w' => TermAns (f + 1) m R l zs w e w' := by
  obtain ⟨a, c, rfl, _⟩ := New.ints hN
  have c1 := hR.cell1
  have c0 := hR.cell0
  cases m with
  | zero =>
    have h30 : ((zs.length : Int) == 30) = true := by rw [beq_iff_eq]; omega
    clear ih
    go_enter Try.func29, Try.ntmps29
    go_wp2
    exact ⟨rfl, Below.refl _ _, .inr ⟨rfl, rfl⟩⟩
  | succ m =>
    have h30 : ((zs.length : Int) == 30) = false := by rw [beq_eq_false_iff_ne]; omega
    cases l with
    | nil =>
      have hC := hid (next_nil R _ w hR)
      clear ih
      go_enter Try.func29, Try.ntmps29
      go_wp2_with (go_at_call 36; refine hC.out.mono ?_; rintro e w1 ⟨rfl, rfl⟩)
      exact ⟨rfl, Below.refl _ _, .inr ⟨rfl, rfl⟩⟩
    | cons b l =>
      have hl' : l.length ≤ 4999 := by simp at hl; omega
      have hC := hid (next_cons R b l _ w (by omega) hR)
      have hR1 := hid (hR.set0 (sv l))
      have hN1 := hid (hN.setR (i := 0) (x := sv l))
      have hB1 : Hid (Below R w (w.setCell ⟨R, 0, none⟩ (sv l))) := (Below.refl _ _).setCell (p := ⟨R, 0, none⟩) (Nat.le_refl _) _
      have IH := hid ih
      have hSg := hid (fun W => signOf_any b W)
      clear ih hR hN hl
      go_enter Try.func29, Try.ntmps29
      go_wp2_with fail
      refine hC.out.mono ?_
      rintro e w1 ⟨rfl, hw1⟩
      rw [← hw1] at hR1 hN1 hB1
      clear hw1 hC c0 c1
      have c1 := hR1.out.cell1
      have f1 := hR1.out.frozen 1
      go_wp2_with fail
      refine (hSg.out w1).mono ?_
      rintro e w1 ⟨rfl, ⟨s, hs, rfl⟩ | ⟨hs, rfl⟩⟩
      rotate_left
      · go_wp2
        exact ⟨rfl, hB1.out, .inr ⟨Tm.rd_sn hs, rfl⟩⟩
      have Hs := hid hs
      have hrl := hR1.out.lt
      have i1 : Ints (w1.alloc (.cells #[.int .i64 s] 3)).heap.size (w1.alloc (.cells #[.int .i64 s] 3)) (some ⟨w1.heap.size, 0, none⟩) [s] := fun j hj => by
        obtain rfl : j = 0 := by simp at hj; omega
        exact ⟨w1.heap.size, 0, rfl, by simp, cell_new _ _ _ _ rfl⟩
      have I1 := hid i1
      have N1 := hid (New.alloc hN1.out (.cells #[.int .i64 s] 3))
      have Ba := hid ((Below.refl (R + 1) w1).alloc (show R + 1 ≤ w1.heap.size by omega) (.cells #[.int .i64 s] 3))
      clear i1 hSg hs
      go_wp2_with (at_builtin; go_loud (refine wp_append_ints _ rfl _ _ rfl (R + 1) _ zs rfl N1.out (some ⟨w1.heap.size, 0, none⟩) [s] 1 rfl (fun h => by cases h) I1.out (by simp; omega) (by simp; omega) ?_); intro v2 w2 hN2 hB2; have R2 := hid (show Rd2 w2 R (sv l) (.slice a zs.length c) from ((Ba.out.trans hB2).block R (by omega)).trans hR1.out); have c2 := R2.out.cell1; have f2 := R2.out.frozen 1; obtain ⟨a2, n2, e2, i2, _⟩ := New.ints hN2; have HN2 := hid hN2; have HB2 := hid (Ba.out.trans hB2); clear hN2 hB2)
      have e3 : v2 = .slice a2 (zs.length + 1) n2 := by rw [e2]; simp
      obtain ⟨W3, hW3⟩ : ∃ W3, w2.setCell ⟨R, 1, none⟩ (.slice a2 (zs.length + 1) n2) = W3 := ⟨_, rfl⟩
      rw [hW3]
      have R3 : Rd2 W3 R (sv l) (.slice a2 (zs.length + 1) n2) := by rw [← hW3]; exact R2.out.set1 _
      have N3 : New (R + 1) W3 (.slice a2 (zs.length + 1) n2) (zs ++ [s]) := by rw [← hW3, ← e3]; exact HN2.out.setR
      have B3 : Below R w W3 := by rw [← hW3]; exact (hB1.out.trans (HB2.out.mono (by omega))).setCell (p := ⟨R, 1, none⟩) (Nat.le_refl _) _
      have hR2 := Tm.room_le s
      have hRm := hid (fun W => room_any s W)
      clear hW3 e3 R2 HN2 HB2 hR1 hN1 hB1 I1 N1 Ba c1 f1 c2 f2 i2 hrl
      have hcase : Tm.room s = 0 ∨ Tm.room s = 1 ∨ Tm.room s = 2 := by omega
      rcases hcase with hr | hr | hr
      · have hA := hid (Tm.rd_s0 (f := f) (m := m) (l := l) Hs.out hr)
        rw [hr] at hRm
        clear hr hR2
        go_wp2_with (go_at_call 31; refine (hRm.out W3).mono ?_; rintro e W3 ⟨rfl, rfl⟩)
        go_end0
        exact ⟨B3, .inl ⟨_, _, _, hA.out, rfl, R3, N3⟩⟩
      · rw [hr] at hRm
        go_wp2_with fail
        refine (hRm.out W3).mono ?_
        rintro e W3 ⟨rfl, rfl⟩
        have Hr := hid hr
        clear hr hR2 hRm
        cases hm : Tm.mark 40 l with
        | none =>
          have hC := hid (mark_no' R 40 40 rfl l _ W3 (by omega) R3 hm)
          have hA := hid (Tm.rd_m1 (f := f) (m := m) Hs.out (by rw [Hr.out]; omega) hm)
          go_wp2_with fail
          refine hC.out.mono ?_
          rintro e w4 ⟨rfl, b4⟩
          go_wp2
          exact ⟨rfl, B3.trans b4, .inr ⟨hA.out, rfl⟩⟩
        | some l1 =>
          obtain rfl := Tm.mark_some hm
          have hC := hid (mark_yes' R 40 40 rfl l1 _ W3 (by simp at hl'; omega) R3)
          clear hm
          go_wp2_with fail
          refine hC.out.mono ?_
          rintro e W4 ⟨rfl, hW4⟩
          have R4 : Rd2 W4 R (sv l1) (.slice a2 (zs.length + 1) n2) := by rw [hW4]; exact R3.set0 _
          have N4 : New (R + 1) W4 (.slice a2 (zs.length + 1) n2) (zs ++ [s]) := by rw [hW4]; exact N3.setR
          have B4 : Below R w W4 := by rw [hW4]; exact B3.setCell (p := ⟨R, 0, none⟩) (Nat.le_refl _) _
          have hCt := hid (IH.out m l1 (zs ++ [s]) _ W4 (by omega) (by simp; omega) (by simp at hl'; omega) R4 N4)
          clear hC hW4 R3 N3 B3 R4 N4
          go_wp2_with fail
          refine hCt.out.mono ?_
          rintro e W5 ⟨b5, ⟨a1, r1, v5, hd5, rfl, R5, N5⟩ | ⟨hd5, rfl⟩⟩
          rotate_left
          · have hA := hid (Tm.rd_t1 (f := f) (m := m) Hs.out (by rw [Hr.out]; omega) hd5)
            clear hCt
            go_wp2
            exact ⟨rfl, B4.trans b5, .inr ⟨hA.out, rfl⟩⟩
          have B5 := B4.trans b5
          obtain ⟨g1, g2⟩ := Tm.rd_rest hd5
          have g3 : r1.length ≤ 4999 := by simp at hl'; omega
          have Hd5 := hid hd5
          clear hCt b5 B4 hd5
          go_wp2
          refine wp_loop_rounds 1 ?_
          rw [rounds_succ]
          cases hm : Tm.mark 41 r1 with
          | none =>
            have hC := hid (mark_no' R 41 41 rfl r1 _ W5 (by omega) R5 hm)
            have hA := hid (Tm.rd_o0 Hs.out Hr.out Hd5.out hm)
            go_wp2_with fail
            refine hC.out.mono ?_
            rintro e W6 ⟨rfl, b6⟩
            go_wp2
            exact ⟨rfl, B5.trans b6, .inr ⟨hA.out, rfl⟩⟩
          | some q1 =>
            obtain rfl := Tm.mark_some hm
            have hC := hid (mark_yes' R 41 41 rfl q1 _ W5 (by simp at g3; omega) R5)
            have hA := hid (Tm.rd_o1 Hs.out Hr.out Hd5.out)
            clear hm
            go_wp2_with fail
            refine hC.out.mono ?_
            rintro e W6 ⟨rfl, hW6⟩
            have R6 : Rd2 W6 R (sv q1) v5 := by rw [hW6]; exact R5.set0 _
            have N6 : New (R + 1) W6 v5 (zs ++ (s :: a1)) := by rw [hW6]; have h := N5.setR (i := 0) (x := sv q1); simpa using h
            have B6 : Below R w W6 := by rw [hW6]; exact B5.setCell (p := ⟨R, 0, none⟩) (Nat.le_refl _) _
            clear hW6 hC
            go_wp2
            go_end0
            exact ⟨B6, .inl ⟨_, _, _, hA.out, rfl, R6, N6⟩⟩
      · rw [hr] at hRm
        go_wp2_with fail
        refine (hRm.out W3).mono ?_
        rintro e W3 ⟨rfl, rfl⟩
        have Hr := hid hr
        clear hr hR2 hRm
        cases hm : Tm.mark 40 l with
        | none =>
          have hC := hid (mark_no' R 40 40 rfl l _ W3 (by omega) R3 hm)
          have hA := hid (Tm.rd_m1 (f := f) (m := m) Hs.out (by rw [Hr.out]; omega) hm)
          go_wp2_with fail
          refine hC.out.mono ?_
          rintro e w4 ⟨rfl, b4⟩
          go_wp2
          exact ⟨rfl, B3.trans b4, .inr ⟨hA.out, rfl⟩⟩
        | some l1 =>
          obtain rfl := Tm.mark_some hm
          have hC := hid (mark_yes' R 40 40 rfl l1 _ W3 (by simp at hl'; omega) R3)
          clear hm
          go_wp2_with fail
          refine hC.out.mono ?_
          rintro e W4 ⟨rfl, hW4⟩
          have R4 : Rd2 W4 R (sv l1) (.slice a2 (zs.length + 1) n2) := by rw [hW4]; exact R3.set0 _
          have N4 : New (R + 1) W4 (.slice a2 (zs.length + 1) n2) (zs ++ [s]) := by rw [hW4]; exact N3.setR
          have B4 : Below R w W4 := by rw [hW4]; exact B3.setCell (p := ⟨R, 0, none⟩) (Nat.le_refl _) _
          have hCt := hid (IH.out m l1 (zs ++ [s]) _ W4 (by omega) (by simp; omega) (by simp at hl'; omega) R4 N4)
          clear hC hW4 R3 N3 B3 R4 N4
          go_wp2_with fail
          refine hCt.out.mono ?_
          rintro e W5 ⟨b5, ⟨a1, r1, v5, hd5, rfl, R5, N5⟩ | ⟨hd5, rfl⟩⟩
          rotate_left
          · have hA := hid (Tm.rd_t1 (f := f) (m := m) Hs.out (by rw [Hr.out]; omega) hd5)
            clear hCt
            go_wp2
            exact ⟨rfl, B4.trans b5, .inr ⟨hA.out, rfl⟩⟩
          have B5 := B4.trans b5
          obtain ⟨g1, g2⟩ := Tm.rd_rest hd5
          have g3 : r1.length ≤ 4999 := by simp at hl'; omega
          have Hd5 := hid hd5
          clear hCt b5 B4 hd5
          go_wp2
          refine wp_loop_rounds 2 ?_
          rw [rounds_succ]
          cases hm : Tm.mark 44 r1 with
          | none =>
            have hC := hid (mark_no' R 44 44 rfl r1 _ W5 (by omega) R5 hm)
            have hA := hid (Tm.rd_c0 Hs.out Hr.out Hd5.out hm)
            go_wp2_with fail
            refine hC.out.mono ?_
            rintro e W6 ⟨rfl, b6⟩
            go_wp2
            exact ⟨rfl, B5.trans b6, .inr ⟨hA.out, rfl⟩⟩
          | some q1 =>
            obtain rfl := Tm.mark_some hm
            have hC := hid (mark_yes' R 44 44 rfl q1 _ W5 (by simp at g3; omega) R5)
            clear hm
            go_wp2_with fail
            refine hC.out.mono ?_
            rintro e W6 ⟨rfl, hW6⟩
            have R6 : Rd2 W6 R (sv q1) v5 := by rw [hW6]; exact R5.set0 _
            have N6 : New (R + 1) W6 v5 (zs ++ (s :: a1)) := by rw [hW6]; have h := N5.setR (i := 0) (x := sv q1); simpa using h
            have B6 : Below R w W6 := by rw [hW6]; exact B5.setCell (p := ⟨R, 0, none⟩) (Nat.le_refl _) _
            have hCt := hid (IH.out (m - a1.length) q1 (zs ++ (s :: a1)) v5 W6 (by omega) (by simp; omega) (by simp at g3; omega) R6 N6)
            clear hC hW6 R5 N5 B5 R6 N6
            go_wp2_with fail
            refine hCt.out.mono ?_
            rintro e W7 ⟨b7, ⟨a3, r3, v7, hd7, rfl, R7, N7⟩ | ⟨hd7, rfl⟩⟩
            rotate_left
            · have hA := hid (Tm.rd_c1 Hs.out Hr.out Hd5.out hd7)
              clear hCt
              go_wp2
              exact ⟨rfl, B6.trans b7, .inr ⟨hA.out, rfl⟩⟩
            have B7 := B6.trans b7
            obtain ⟨g4, g5⟩ := Tm.rd_rest hd7
            have g6 : r3.length ≤ 4999 := by simp at g3; omega
            have Hd7 := hid hd7
            clear hCt b7 B6 hd7
            go_wp2
            rw [rounds_succ]
            cases hm : Tm.mark 41 r3 with
            | none =>
              have hC := hid (mark_no' R 41 41 rfl r3 _ W7 (by omega) R7 hm)
              have hA := hid (Tm.rd_d0 Hs.out Hr.out Hd5.out Hd7.out hm)
              go_wp2_with fail
              refine hC.out.mono ?_
              rintro e W8 ⟨rfl, b8⟩
              go_wp2
              exact ⟨rfl, B7.trans b8, .inr ⟨hA.out, rfl⟩⟩
            | some q2 =>
              obtain rfl := Tm.mark_some hm
              have hC := hid (mark_yes' R 41 41 rfl q2 _ W7 (by simp at g6; omega) R7)
              have hA := hid (Tm.rd_d1 Hs.out Hr.out Hd5.out Hd7.out)
              clear hm
              go_wp2_with fail
              refine hC.out.mono ?_
              rintro e W8 ⟨rfl, hW8⟩
              have R8 : Rd2 W8 R (sv q2) v7 := by rw [hW8]; exact R7.set0 _
              have N8 : New (R + 1) W8 v7 (zs ++ (s :: (a1 ++ a3))) := by rw [hW8]; have h := N7.setR (i := 0) (x := sv q2); simpa using h
              have B8 : Below R w W8 := by rw [hW8]; exact B7.setCell (p := ⟨R, 0, none⟩) (Nat.le_refl _) _
              clear hW8 hC
              go_wp2
              go_end0
              exact ⟨B8, .inl ⟨_, _, _, hA.out, rfl, R8, N8⟩⟩

end Go.Proofs.Ytcgljcbpcchcjaa
