import Derived.Test.YtjoklbkbggdlgaaG0
namespace Go.Proofs.Ytjoklbkbggdlgaa
open Go.RowKit
set_option linter.unusedVariables false
set_option linter.unusedSimpArgs false

theorem sq_le {d n : Nat} (h : d * d ≤ n) (hn : n ≤ 1000000000) : d ≤ 31622 := by
  rcases Nat.lt_or_ge d 31623 with h1 | h1
  · omega
  · have := Nat.mul_le_mul h1 h1
    omega

theorem prime_beq {x : Int} (h : 2 ≤ x) : ((leastF x.toNat : Int) == x) = primeB x.toNat := by
  rw [primeB_of (by omega), Bool.eq_iff_iff, beq_iff_eq, decide_eq_true_eq]
  omega

def isPOk (n : Int) : Bool := inB n 0 1000000000
def isPV (n : Int) : Bool := isPOk n && primeB n.toNat

def lfOk (n : Int) : Bool := inB n 2 1000000000
def lfV (n : Int) : Int := if lfOk n then (leastF n.toNat : Int) else 0
theorem lfV_no {n : Int} (h : lfOk n = false) : lfV n = 0 := by rw [lfV, h]; rfl
theorem lfV_yes {n : Int} (h : lfOk n = true) : lfV n = (leastF n.toNat : Int) := by rw [lfV, h]; rfl

end Go.Proofs.Ytjoklbkbggdlgaa
