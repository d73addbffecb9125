import Derived.Test.YtapjbppkekigaabE1
namespace Go.Proofs.Ytapjbppkekigaab
open Go.RowKit
set_option linter.unusedVariables false
set_option linter.unusedSimpArgs false

def mostB (n : Int) : Bool := inB n 0 600
theorem mostB_true {n : Int} : mostB n = true ↔ 0 ≤ n ∧ n ≤ 600 := inB_true

end Go.Proofs.Ytapjbppkekigaab
