import Derived.Test.YtapjbppkekigaabE1
import Derived.IntWalk
namespace Go.Proofs.Ytapjbppkekigaab
open Go.RowKit
set_option linter.unusedVariables false
set_option linter.unusedSimpArgs false

/-- The greatest common divisor. -/
def gcdF (a b : Int) : Int := (Nat.gcd a.toNat b.toNat : Int)
theorem gcdF_zero (a : Int) (h : 0 ≤ a) : gcdF a 0 = a := by simp [gcdF]; omega
theorem gcdF_step (a b : Int) (ha : 0 ≤ a) (hb : 0 < b) : gcdF b (a % b) = gcdF a b := by
  obtain ⟨x, rfl⟩ := Int.eq_ofNat_of_zero_le ha
  obtain ⟨y, rfl⟩ := Int.eq_ofNat_of_zero_le (Int.le_of_lt hb)
  unfold gcdF
  rw [← Int.natCast_emod, Int.toNat_natCast, Int.toNat_natCast, Int.toNat_natCast, Nat.gcd_comm y, ← Nat.gcd_rec, Nat.gcd_comm]
theorem gcdF_pos (a b : Int) (ha : 1 ≤ a) : 1 ≤ gcdF a b := by
  have : 0 < Nat.gcd a.toNat b.toNat := Nat.gcd_pos_of_pos_left _ (by omega)
  unfold gcdF; omega
theorem gcdF_le (a b : Int) (ha : 1 ≤ a) : gcdF a b ≤ a := by
  have : Nat.gcd a.toNat b.toNat ≤ a.toNat := Nat.gcd_le_left _ (by omega)
  unfold gcdF; omega



end Go.Proofs.Ytapjbppkekigaab
