import Derived.Test.YtehppjdiegoeeaaG3
namespace Go.Proofs.Ytehppjdiegoeeaa
open Go.RowKit
set_option linter.unusedVariables false
set_option linter.unusedSimpArgs false

set_option maxRecDepth 100000 in
theorem prime_1000003 : primeB 1000003 = true := by decide +kernel
set_option maxRecDepth 100000 in
theorem count_primes : (flF primeB 2 9999).length = 1229 := by decide +kernel
set_option maxRecDepth 100000 in
theorem count_first : (flF primeB 2 36).length = 12 := by decide +kernel


def pbOk (a b : Int) : Bool := inB a 0 1000000000 && inB b 0 1000000000 && decide (b - a ≤ 2000)
def pbA (a b : Int) : List Int := if pbOk a b then prB a.toNat b.toNat else []
theorem pbA_no {a b : Int} (h : pbOk a b = false) : pbA a b = [] := by rw [pbA, h]; rfl
theorem pbA_yes {a b : Int} (h : pbOk a b = true) : pbA a b = prB a.toNat b.toNat := by rw [pbA, h]; rfl
theorem pbA_len (a b : Int) : (pbA a b).length ≤ 1048576 := by
  cases h : pbOk a b with
  | false => rw [pbA_no h]; exact Nat.zero_le _
  | true =>
    rw [pbA_yes h]
    have := prB_len a.toNat b.toNat
    simp only [pbOk, Bool.and_eq_true, decide_eq_true_eq, inB_true] at h
    omega

def cpOk (n : Int) : Bool := inB n 0 10000
def cpV (n : Int) : Int := if cpOk n then ((prB 2 n.toNat).length : Int) else 0
theorem cpV_no {n : Int} (h : cpOk n = false) : cpV n = 0 := by rw [cpV, h]; rfl
theorem cpV_yes {n : Int} (h : cpOk n = true) : cpV n = ((prB 2 n.toNat).length : Int) := by rw [cpV, h]; rfl

/-- The first prime from m on, m at most 1000003. -/
def npF : Nat → Nat → Nat
  | 0, m => m
  | f + 1, m => if primeB m then m else npF f (m + 1)
def nextP (m : Nat) : Nat := npF (1000004 - m) m
theorem nextP_yes {m : Nat} (h : m ≤ 1000003) (hp : primeB m = true) : nextP m = m := by
  rw [nextP, show 1000004 - m = (1000003 - m) + 1 by omega, npF, if_pos hp]
theorem nextP_no {m : Nat} (h : m ≤ 1000003) (hp : primeB m = false) : nextP m = nextP (m + 1) ∧ m + 1 ≤ 1000003 := by
  have h2 : m ≠ 1000003 := fun e => by rw [e, prime_1000003] at hp; cases hp
  rw [nextP, show 1000004 - m = (1000004 - (m + 1)) + 1 by omega, npF, if_neg (by rw [hp]; exact Bool.false_ne_true)]
  exact ⟨rfl, by omega⟩
def npOk (n : Int) : Bool := inB n 0 1000000
def npV (n : Int) : Int := if npOk n then (nextP (n.toNat + 1) : Int) else 0
theorem npV_no {n : Int} (h : npOk n = false) : npV n = 0 := by rw [npV, h]; rfl
theorem npV_yes {n : Nat} (h : npOk (n : Int) = true) : npV (n : Int) = (nextP (n + 1) : Int) := by rw [npV, h, Int.toNat_natCast]; rfl

end Go.Proofs.Ytehppjdiegoeeaa
