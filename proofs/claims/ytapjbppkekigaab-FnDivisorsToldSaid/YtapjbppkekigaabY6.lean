import Derived.Test.YtapjbppkekigaabY5
namespace Go.Proofs.Ytapjbppkekigaab
open Go.RowKit
set_option linter.unusedVariables false
set_option linter.unusedSimpArgs false

/-- What a table of a kind tells of n. -/
def tbF (K n : Nat) : Int := match K with
  | 0 => 1
  | 1 => (n : Int)
  | 2 => ((dvD n).length : Int)
  | 3 => dvS n
  | 4 => (toF n : Int)
  | 5 => sgD n
  | _ => if n = 1 then 1 else 0
def tbL (K M : Nat) : List Int := (List.range M).map fun i => tbF K (i + 1)
theorem tbL_succ (K M : Nat) : tbL K (M + 1) = tbL K M ++ [tbF K (M + 1)] := by simp [tbL, List.range_succ]
theorem tbL_len (K M : Nat) : (tbL K M).length = M := by simp [tbL]


end Go.Proofs.Ytapjbppkekigaab
