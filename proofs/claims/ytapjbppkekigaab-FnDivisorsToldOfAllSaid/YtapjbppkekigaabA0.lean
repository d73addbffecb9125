import Derived.Test.YtapjbppkekigaabE0
namespace Go.Proofs.Ytapjbppkekigaab
open Go.RowKit
set_option linter.unusedVariables false
set_option linter.unusedSimpArgs false


def okR (e r : Int) : Bool := decide (2 ≤ e ∧ e ≤ 60 ∧ 0 ≤ r ∧ r < e)
theorem okR_true {e r : Int} : okR e r = true ↔ 2 ≤ e ∧ e ≤ 60 ∧ 0 ≤ r ∧ r < e := by simp [okR]
theorem okR_false {e r : Int} : okR e r = false ↔ ¬ (2 ≤ e ∧ e ≤ 60 ∧ 0 ≤ r ∧ r < e) := by simp only [okR, decide_eq_false_iff_not]


end Go.Proofs.Ytapjbppkekigaab
