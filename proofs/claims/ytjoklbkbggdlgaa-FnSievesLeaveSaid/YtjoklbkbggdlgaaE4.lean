import Derived.Test.YtjoklbkbggdlgaaE1
import Derived.IntWalk
namespace Go.Proofs.Ytjoklbkbggdlgaa
open Go.RowKit
set_option linter.unusedVariables false
set_option linter.unusedSimpArgs false

/-- The steps k + 1, k, .., 2, backwards. -/
def riseF : Nat → Int → Int
  | 0, p => p
  | k + 1, p => riseF k (p + (p - 1) / ((k : Int) + 1))
theorem rise_step (p x : Int) (h1 : 1 ≤ p) (h2 : 1 ≤ x) : 0 ≤ (p - 1) / x ∧ (p - 1) / x ≤ p - 1 :=
  ⟨Int.ediv_nonneg (by omega) (by omega), Int.ediv_le_self _ (by omega)⟩
theorem rise_ge : ∀ (k : Nat) (p : Int), 1 ≤ p → p ≤ riseF k p
  | 0, p, _ => Int.le_refl _
  | k + 1, p, h => by
    have h1 := rise_step p ((k : Int) + 1) h (by omega)
    have := rise_ge k (p + (p - 1) / ((k : Int) + 1)) (by omega)
    rw [riseF]
    omega
theorem rise_max : ∀ r : Nat, r < 31 → riseF r ((r : Int) + 1) ≤ 1000 := by decide
theorem rise_one (r : Nat) : riseF (r + 1) ((r : Int) + 1) = riseF r ((r : Int) + 1) := by
  rw [riseF, Int.add_sub_cancel, Int.ediv_eq_zero_of_lt (by omega) (by omega), Int.add_zero]

def riseOk (r : Int) : Bool := inB r 0 30
def riseV (r : Int) : Int := if riseOk r then riseF r.toNat (r + 1) else 0
theorem riseV_no {r : Int} (h : riseOk r = false) : riseV r = 0 := by rw [riseV, h]; rfl
theorem riseV_yes {r : Nat} (h : riseOk (r : Int) = true) : riseV (r : Int) = riseF r ((r : Int) + 1) := by rw [riseV, h, Int.toNat_natCast]; rfl



/-- The last one of a circle, counted from 0. -/
def lastF (k : Int) : Nat → Int
  | 0 => 0
  | m + 1 => (lastF k m + k) % ((m : Int) + 1)
theorem last_lo (k : Int) : ∀ m, 0 ≤ lastF k m
  | 0 => Int.le_refl _
  | m + 1 => Int.emod_nonneg _ (by omega)
theorem last_hi (k : Int) (m : Nat) : lastF k (m + 1) ≤ m := by
  have := Int.emod_lt_of_pos (lastF k m + k) (b := (m : Int) + 1) (by omega)
  rw [lastF]
  omega
theorem last_one (k : Int) : lastF k 1 = 0 := by simp [lastF]
def lastOk (n k : Int) : Bool := inB n 1 100 && inB k 1 1000
def lastV (n k : Int) : Int := if lastOk n k then lastF k n.toNat + 1 else 0
theorem lastV_no {n k : Int} (h : lastOk n k = false) : lastV n k = 0 := by rw [lastV, h]; rfl
theorem lastV_yes {n : Nat} {k : Int} (h : lastOk (n : Int) k = true) : lastV (n : Int) k = lastF k n + 1 := by rw [lastV, h, Int.toNat_natCast]; rfl



end Go.Proofs.Ytjoklbkbggdlgaa
