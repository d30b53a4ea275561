/-
  Parts of the proof: Nor3.
-/
import Derived.Test.YtglohanbpjaieaaGreatBcr19
namespace Go.Proofs.YtglohanbpjaieaaGreat
open Go.Proofs Go.RowKit Go.Shelf Go.Maps
inductive Tm.Runs (rs:RuleL):List Int→Nat→List Int→Prop where
 | stop {t:List Int} (h:Tm.stepErr rs t = 0) (hn:(Tm.stepVal rs t).length = 0):Tm.Runs rs t 0 t
 | go {t x:List Int} {n:Nat} (h:Tm.stepErr rs t = 0) (hn:0 < (Tm.stepVal rs t).length) (hr:Tm.Runs rs ((Tm.stepVal rs t)[0]?.getD (0,0,[])).2.2 n x):Tm.Runs rs t (n+1) x
theorem Tm.fm_runs {rs:RuleL}:∀ (f:Nat) (t:List Int) (k:Nat),(Tm.fm rs f t k).2.2 = 0→∃ n,Tm.Runs rs t n (Tm.fm rs f t k).1∧(Tm.fm rs f t k).2.1 = k+n∧n < f:=by
 intro f
 induction f with
 | zero=>intro t k h;simp [Tm.fm] at h
 | succ f ih =>
  intro t k h
  by_cases he:Tm.stepErr rs t = 0
  ·by_cases hn:(Tm.stepVal rs t).length = 0
   ·rw [Tm.fm_end he hn]
    exact ⟨0,.stop he hn,rfl,by omega⟩
   ·have hp:0 < (Tm.stepVal rs t).length:=by omega
    rw [Tm.fm_go he hp] at h ⊢
    obtain ⟨n,h1,h2,h3⟩:=ih _ _ h
    exact ⟨n+1,.go he hp h1,by rw [h2];omega,by omega⟩
  ·rw [Tm.fm_bad he] at h
   exact absurd h he
theorem Tm.runs_end {rs:RuleL} {t x:List Int} {n:Nat} (h:Tm.Runs rs t n x):Tm.stepErr rs x = 0∧(Tm.stepVal rs x).length = 0:=by
 induction h with
 | stop h hn=>exact ⟨h,hn⟩
 | go _ _ _ ih=>exact ih
theorem Tm.form_runs {rs:RuleL} {t:List Int} (h:(Tm.form rs t).2.2 = 0):∃ n,n≤60∧Tm.Runs rs t n (Tm.form rs t).1∧(Tm.form rs t).2.1 = n:=by
 obtain ⟨n,h1,h2,h3⟩:=Tm.fm_runs 61 t 0 h
 exact ⟨n,by omega,h1,by unfold Tm.form;rw [h2];omega⟩
end Go.Proofs.YtglohanbpjaieaaGreat
