import Derived.Test.YtoapidcbmlnjcaaQ8
import Derived.Test.YtoapidcbmlnjcaaI2
namespace Go.Proofs.Ytoapidcbmlnjcaa
open Go.RowKit
set_option linter.unusedVariables false
set_option linter.unusedSimpArgs false

/-! How long the answers are. -/
theorem gpGA_len2 (rs : List (Int × Int)) : (gpGA rs).length ≤ 1048576 := by have := gpGA_len rs; have := gpA_len rs; omega
theorem rwV_len2 (xs : List Int) : (rwV xs).length ≤ 1048576 := by have := rwV_len xs; omega
theorem fcV_len2 (xs : List Int) (n : Int) : (fcV xs n).length ≤ 1048576 := by
  cases ho : fcO xs n with
  | false => rw [fcV_no ho]; exact Nat.zero_le _
  | true =>
    have hq : gqO xs n = true := by rw [fcO, Bool.and_eq_true] at ho; exact ho.1
    obtain ⟨h1, h2, h3⟩ := gqO_parts hq
    obtain ⟨N, rfl⟩ := Int.eq_ofNat_of_zero_le h2
    rw [fcV_yes ho, cvA_eq (gpP_pos h1) (by omega)]
    cases ((List.range (prodN xs)).filter fun r => decide (N ≤ lcV (chR xs r))) with
    | nil => exact Nat.zero_le _
    | cons r t =>
      show (chR xs r).length ≤ _
      rw [chR_len]
      have := (gpP_parts h1).1
      omega

end Go.Proofs.Ytoapidcbmlnjcaa
