import Derived.Test.YtaapfapejekkfaaY7
namespace Go.Proofs.Ytaapfapejekkfaa
open Go.RowKit
set_option linter.unusedVariables false
set_option linter.unusedSimpArgs false

/-- The way of sum steps. -/
def swF : Nat → Nat → List Int
  | 0, n => [(n : Int)]
  | s + 1, n => if 1 ≤ n ∧ n ≤ 1000000 then (n : Int) :: swF s (stN n) else [(n : Int)]
theorem swF_len : ∀ s n, (swF s n).length ≤ s + 1
  | 0, n => Nat.le_refl _
  | s + 1, n => by
    have := swF_len s (stN n)
    rw [swF]
    split <;> simp <;> omega
def swOk (n s : Int) : Bool := inB n 1 1000000 && inB s 0 20
def swA (n s : Int) : List Int := if swOk n s then swF s.toNat n.toNat else []
theorem swA_no {n s : Int} (h : swOk n s = false) : swA n s = [] := by rw [swA, h]; rfl
theorem swA_yes {n s : Nat} (h : swOk (n : Int) (s : Int) = true) : swA (n : Int) (s : Int) = swF s n := by rw [swA, h, Int.toNat_natCast, Int.toNat_natCast]; rfl
theorem swA_len (n s : Int) : (swA n s).length ≤ 1048576 := by
  cases h : swOk n s with
  | false => rw [swA_no h]; exact Nat.zero_le _
  | true =>
    rw [swA, h, if_pos rfl]
    rw [swOk, Bool.and_eq_true] at h
    have := inB_true.1 h.2
    have := swF_len s.toNat n.toNat
    omega


end Go.Proofs.Ytaapfapejekkfaa
