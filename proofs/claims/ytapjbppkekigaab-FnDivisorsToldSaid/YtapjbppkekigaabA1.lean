import Derived.Test.YtapjbppkekigaabA0
namespace Go.Proofs.Ytapjbppkekigaab
open Go.RowKit
set_option linter.unusedVariables false
set_option linter.unusedSimpArgs false

def evL (rs : List (Int × Int)) (k : Nat) : Int := (rs.getD k (0, 0)).1
def reL (rs : List (Int × Int)) (k : Nat) : Int := (rs.getD k (0, 0)).2
/-- The slice (b, off) reads as the rules rs (each two cells). -/
def RulesAt (w : World) (b off : Nat) (rs : List (Int × Int)) : Prop :=
  ∀ k, k < rs.length → w.cell? ⟨b, off + k * 2, none⟩ = some (.int .i64 (evL rs k)) ∧ w.cell? ⟨b, off + k * 2 + 1, none⟩ = some (.int .i64 (reL rs k))

def okAt (rs : List (Int × Int)) (k : Nat) : Bool := okR (evL rs k) (reL rs k)
def goodL (rs : List (Int × Int)) : Bool := decide (rs.length ≤ 12) && decide (∀ k, k < rs.length → okAt rs k = true)
theorem goodL_true {rs : List (Int × Int)} (h : rs.length ≤ 12) (h2 : ∀ k, k < rs.length → okAt rs k = true) : goodL rs = true := by simp [goodL, h]; exact h2
theorem goodL_false {rs : List (Int × Int)} (h : ¬ rs.length ≤ 12) : goodL rs = false := by simp [goodL]; omega
theorem goodL_false' {rs : List (Int × Int)} {k : Nat} (h : k < rs.length) (h2 : okAt rs k = false) : goodL rs = false := by
  simp only [goodL, Bool.and_eq_false_iff, decide_eq_false_iff_not]
  exact .inr fun hh => by rw [hh k h] at h2; cases h2


end Go.Proofs.Ytapjbppkekigaab
