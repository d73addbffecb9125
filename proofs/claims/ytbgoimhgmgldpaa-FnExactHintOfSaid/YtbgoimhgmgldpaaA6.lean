import Derived.Test.YtbgoimhgmgldpaaL0
namespace Go.Proofs.Ytbgoimhgmgldpaa
open Go.RowKit
set_option linter.unusedVariables false
set_option linter.unusedSimpArgs false

theorem numB_lo {n : Int} (h : numB n = true) : -10000000000000 ≤ n := by have := numB_true.1 h; omega
theorem numB_hi {n : Int} (h : numB n = true) : n ≤ 10000000000000 := by have := numB_true.1 h; omega

def okN (rs : List (Int × Int)) (n : Int) : Bool := goodL rs && numB n
def isLeftV (rs : List (Int × Int)) (n : Int) : Bool := okN rs n && leftF rs n
def firstV (rs : List (Int × Int)) (n : Int) : Int := if okN rs n && !leftF rs n then (fIdx rs n : Int) else 0
def firstOk (rs : List (Int × Int)) (n : Int) : Bool := okN rs n && !leftF rs n



theorem firstI_pos {rs : List (Int × Int)} {n : Int} (h : leftF rs n = false) : firstI rs n = (fIdx rs n : Int) := by
  have := fIdx_le rs n
  simp only [leftF, decide_eq_false_iff_not] at h
  rw [firstI, if_pos (by omega)]
theorem firstK_ok {rs : List (Int × Int)} {n : Int} (h : okN rs n = true) : firstK rs n = firstV rs n ∧ crossedB rs n = firstOk rs n := by
  have := fIdx_le rs n
  rw [firstK, firstV, firstOk, h, crossedB]
  cases hl : leftF rs n with
  | true =>
    simp only [leftF, decide_eq_true_eq] at hl
    rw [hl]
    simp
  | false =>
    simp only [leftF, decide_eq_false_iff_not] at hl
    have : fIdx rs n < rs.length := by omega
    simp [this]



end Go.Proofs.Ytbgoimhgmgldpaa
