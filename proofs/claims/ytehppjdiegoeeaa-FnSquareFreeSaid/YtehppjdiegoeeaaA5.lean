import Derived.Test.YtehppjdiegoeeaaA4
namespace Go.Proofs.Ytehppjdiegoeeaa
open Go.RowKit
set_option linter.unusedVariables false
set_option linter.unusedSimpArgs false






def numB (n : Int) : Bool := inB n (-600) 600
theorem numB_true {n : Int} : numB n = true ↔ -600 ≤ n ∧ n ≤ 600 := inB_true

def leftF (rs : List (Int × Int)) (n : Int) : Bool := decide (fIdx rs n = rs.length)
theorem leftF_firstI {rs : List (Int × Int)} {n : Int} : leftF rs n = true ↔ firstI rs n < 0 := by
  have := fIdx_le rs n
  simp only [leftF, decide_eq_true_eq, firstI]
  split <;> omega
theorem leftF_crossed {rs : List (Int × Int)} {n : Int} : (!crossedB rs n) = leftF rs n := by
  have := fIdx_le rs n
  rw [Bool.eq_iff_iff]
  simp only [leftF, crossedB, Bool.not_eq_true', decide_eq_false_iff_not, decide_eq_true_eq]
  omega


end Go.Proofs.Ytehppjdiegoeeaa
