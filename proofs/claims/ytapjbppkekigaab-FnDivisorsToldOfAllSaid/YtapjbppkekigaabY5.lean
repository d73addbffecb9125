import Derived.Test.YtapjbppkekigaabY4
namespace Go.Proofs.Ytapjbppkekigaab
open Go.RowKit
set_option linter.unusedVariables false
set_option linter.unusedSimpArgs false

def m6Ok (n : Int) : Bool := inB n 0 600
theorem dvS_small {n : Nat} (h1 : 1 ≤ n) (h : n ≤ 1000000) : 0 ≤ dvS n ∧ dvS n ≤ 2000000000 := by
  have hsl := dvS_le h1
  have hrt9 := sq_lt_of (rtF_parts n).1 (show n < 1001 * 1001 by omega)
  have hmm := Nat.mul_le_mul (show rtF n ≤ 1000 by omega) h
  omega
def pfB (n : Nat) : Bool := decide (dvS n = 2 * (n : Int))
def pfA (n : Int) : List Int := if m6Ok n then flF pfB 1 n.toNat else []
theorem pfA_no {n : Int} (h : m6Ok n = false) : pfA n = [] := by rw [pfA, h]; rfl
theorem pfA_yes {n : Nat} (h : m6Ok (n : Int) = true) : pfA (n : Int) = flF pfB 1 n := by rw [pfA, h, Int.toNat_natCast]; rfl
theorem pfA_len (n : Int) : (pfA n).length ≤ 1048576 := by
  cases h : m6Ok n with
  | false => rw [pfA_no h]; exact Nat.zero_le _
  | true =>
    rw [pfA, h, if_pos rfl]
    have := flF_len pfB 1 n.toNat
    have := inB_true.1 h
    omega
/-- The numbers with more divisors than all before. -/
def rcR : Nat → Nat
  | 0 => 0
  | k + 1 => max (rcR k) (dvD (k + 1)).length
def rcB (n : Nat) : Bool := decide (rcR (n - 1) < (dvD n).length)
theorem rcR_le : ∀ k, rcR k ≤ k
  | 0 => Nat.le_refl _
  | k + 1 => by
    have h1 := rcR_le k
    have h2 : (dvD (k + 1)).length ≤ k + 1 := flF_len _ _ _
    rw [rcR]
    omega
def rcA (n : Int) : List Int := if m6Ok n then flF rcB 1 n.toNat else []
theorem rcA_no {n : Int} (h : m6Ok n = false) : rcA n = [] := by rw [rcA, h]; rfl
theorem rcA_yes {n : Nat} (h : m6Ok (n : Int) = true) : rcA (n : Int) = flF rcB 1 n := by rw [rcA, h, Int.toNat_natCast]; rfl
theorem rcA_len (n : Int) : (rcA n).length ≤ 1048576 := by
  cases h : m6Ok n with
  | false => rw [rcA_no h]; exact Nat.zero_le _
  | true =>
    rw [rcA, h, if_pos rfl]
    have := flF_len rcB 1 n.toNat
    have := inB_true.1 h
    omega




/-- Sums of totients. -/
def toSum : Nat → Nat
  | 0 => 0
  | k + 1 => toSum k + toF (k + 1)
theorem toSum_le : ∀ k, toSum k ≤ k * k
  | 0 => Nat.le_refl _
  | k + 1 => by
    have h1 := toSum_le k
    have h2 : toF (k + 1) ≤ k + 1 := toS_le _ (Nat.le_refl _)
    have h3 : (k + 1) * (k + 1) = k * k + 2 * k + 1 := by rw [Nat.add_mul, Nat.mul_add]; omega
    rw [toSum]
    omega
def cpOk (n : Int) : Bool := inB n 1 600
def cpV (n : Int) : Int := if cpOk n then 2 * (toSum n.toNat : Int) - 1 else 0
theorem cpV_no {n : Int} (h : cpOk n = false) : cpV n = 0 := by rw [cpV, h]; rfl
theorem cpV_yes {n : Nat} (h : cpOk (n : Int) = true) : cpV (n : Int) = 2 * (toSum n : Int) - 1 := by rw [cpV, h, Int.toNat_natCast]; rfl


end Go.Proofs.Ytapjbppkekigaab
