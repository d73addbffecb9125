import Derived.Test.YtjblgohgkkfoiaaO0
import Derived.Test.YtjblgohgkkfoiaaJ5
import Derived.Test.YtjblgohgkkfoiaaL0
namespace Go.Proofs.Ytjblgohgkkfoiaa
open Go.ChangeShapes Go.WideShapes Go.ChangeAt Go.RowKit Go.Deep
set_option linter.unusedVariables false
set_option linter.unusedSimpArgs false

/-- How many of 1, .., y have no common divisor with x. -/
def cgR (x : Nat) : Nat → Nat
  | 0 => 0
  | y + 1 => cgR x y + (bif Nat.gcd x (y + 1) == 1 then 1 else 0)
/-- Pairs of such, the first at most k, the second at most n. -/
def cgS (n : Nat) : Nat → Nat
  | 0 => 0
  | k + 1 => cgS n k + cgR (k + 1) n
theorem cgR_le (x : Nat) : ∀ y, cgR x y ≤ y
  | 0 => Nat.le_refl _
  | y + 1 => by have := cgR_le x y; rw [cgR]; cases (Nat.gcd x (y + 1) == 1) <;> simp <;> omega
theorem cgS_le (n : Nat) : ∀ k, cgS n k ≤ k * n
  | 0 => by rw [cgS]; omega
  | k + 1 => by have := cgS_le n k; have := cgR_le (k + 1) n; rw [cgS, Nat.succ_mul]; omega
theorem cg_is60 : ((List.range 60).all fun n => cgS (n + 1) (n + 1) == 2 * toSum (n + 1) - 1) = true := by decide +kernel
theorem cg_is {n : Nat} (h1 : 1 ≤ n) (h2 : n ≤ 60) : cgS n n = 2 * toSum n - 1 := by
  have := List.all_eq_true.1 cg_is60 (n - 1) (List.mem_range.2 (by omega))
  rw [show n - 1 + 1 = n by omega] at this
  exact beq_iff_eq.1 this
theorem toSum_pos : ∀ {k}, 1 ≤ k → 1 ≤ toSum k
  | k + 1, _ => by
    have h : 1 ≤ toF (0 + 1) := by decide +kernel
    induction k with
    | zero => rw [toSum]; omega
    | succ j ih => rw [toSum]; have := ih (by omega); omega

end Go.Proofs.Ytjblgohgkkfoiaa
