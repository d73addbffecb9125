import Derived.Test.YthodhoochokfaaaG4
import Derived.Test.YthodhoochokfaaaP8
namespace Go.Proofs.Ythodhoochokfaaa
open Go.RowKit
set_option linter.unusedVariables false
set_option linter.unusedSimpArgs false

/-- The primes up to 10000. -/
def pr9 : List Int := flF primeB 2 9999
theorem pr9_len : pr9.length = 1229 := count_primes
theorem pr9_is : prB 2 10000 = pr9 := rfl
theorem pr9_take {j k : Nat} (hj : j ≤ 9999) (h : (flF primeB 2 j).length = k) : pr9.take k = flF primeB 2 j := by
  rw [pr9, show 9999 = j + (9999 - j) by omega, flF_add, ← h, List.take_left']
  rfl
theorem pr9_more {j k : Nat} (h : (flF primeB 2 j).length < k) (hk : k ≤ 1229) (hj : j ≤ 9999) : j + 1 ≤ 9999 := by
  rcases Nat.lt_or_ge j 9999 with h1 | h1
  · exact h1
  · have : j = 9999 := by omega
    rw [this, count_primes] at h
    omega
theorem pr9_first {k : Nat} (hk : k ≤ 12) : (prB 2 37).take k = pr9.take k := by
  rw [pr9, show 9999 = 36 + 9963 by rfl, flF_add, List.take_append_of_le_length (by rw [count_first]; exact hk)]
  rfl
theorem OwnI.cap {w : World} {B n c : Nat} {A : Option Addr} {xs : List Int} (h : OwnI w B (.slice A n c) xs) : n ≤ c ∧ c ≤ 9223372036854775807 := by
  rcases h.2 with ⟨e, h0⟩ | ⟨g, cap, cur, e, hB, hg, hle, hm, hcs, ht⟩
  · simp only [Value.slice.injEq] at e
    omega
  · simp only [Value.slice.injEq] at e
    unfold maxLen at hm
    omega



def porOk (r : Int) : Bool := inB r 0 1228
def porV (r : Int) : Int := if porOk r then ivL pr9 r.toNat else 0
theorem porV_no {r : Int} (h : porOk r = false) : porV r = 0 := by rw [porV, h]; rfl
theorem porV_yes {r : Nat} (h : porOk (r : Int) = true) : porV (r : Int) = ivL pr9 r := by rw [porV, h, Int.toNat_natCast]; rfl

end Go.Proofs.Ythodhoochokfaaa
