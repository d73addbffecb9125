import Derived.Test.YtehppjdiegoeeaaG1
namespace Go.Proofs.Ytehppjdiegoeeaa
open Go.RowKit
set_option linter.unusedVariables false
set_option linter.unusedSimpArgs false


theorem info_Bo : (Try.prog.info? 4).map (fun i => (i.zero, i.size, i.bytes)) = some (some (.bool false), 1, 1) := by kernel_rfl
/-- The multiples of d from m on, below the number n. -/
theorem mul_first {lo d n : Nat} (hd : 0 < d) (h : lo ≤ n) (h2 : n % d = 0) : (lo + d - 1) / d * d ≤ n := by
  have h3 : n = n / d * d := by have := Nat.div_add_mod n d; rw [h2, Nat.mul_comm] at this; omega
  rw [h3]
  apply Nat.mul_le_mul_right
  rw [Nat.div_le_iff_le_mul_add_pred hd]
  rw [Nat.mul_comm]
  omega
theorem mul_first_ge {lo d : Nat} (hd : 0 < d) : lo ≤ (lo + d - 1) / d * d := by
  have := Nat.div_add_mod (lo + d - 1) d
  have h2 := Nat.mod_lt (lo + d - 1) hd
  rw [Nat.mul_comm] at this
  omega
/-- The marks while the multiples of d are marked, those below m done. -/
def mkB (d m n : Nat) : Bool := anyD n d || (decide (n < m) && decide (d * d ≤ n ∧ n % d = 0))
theorem mkB_start {lo d n : Nat} (hd : 2 ≤ d) (h : lo ≤ n) : mkB d (max (d * d) ((lo + d - 1) / d * d)) n = anyD n d := by
  unfold mkB
  by_cases h1 : d * d ≤ n ∧ n % d = 0
  · have h2 := mul_first (by omega) h h1.2
    have : ¬ n < max (d * d) ((lo + d - 1) / d * d) := by omega
    rw [decide_eq_false this, Bool.false_and, Bool.or_false]
  · simp [h1]
theorem mkB_end {d m n : Nat} (hd : 2 ≤ d) (h : n < m) : mkB d m n = anyD n (d + 1) := by
  rw [mkB, anyD_succ]
  simp [h, hd]
theorem mkB_hit {d m : Nat} (h1 : d * d ≤ m) (h2 : m % d = 0) (hd : 2 ≤ d) : mkB d (m + d) m = true := by
  unfold mkB
  simp [h1, h2]
  omega
theorem mkB_other {d m n : Nat} (h2 : m % d = 0) (hd : 2 ≤ d) (hn : n ≠ m) : mkB d (m + d) n = mkB d m n := by
  unfold mkB
  by_cases h1 : d * d ≤ n ∧ n % d = 0
  · have h3 : n < m + d ↔ n < m := by
      constructor
      · intro h4
        rcases Nat.lt_or_ge n m with h5 | h5
        · exact h5
        · have h6 : (n - m) % d = 0 := by rw [← Nat.dvd_iff_mod_eq_zero] at *; exact Nat.dvd_sub h1.2 h2
          rw [Nat.mod_eq_of_lt (by omega)] at h6
          omega
      · omega
    simp [h3]
  · simp [h1]

end Go.Proofs.Ytehppjdiegoeeaa
