import Derived.Test.YtoapidcbmlnjcaaS4
import Derived.Test.YtoapidcbmlnjcaaN1
import Derived.Test.YtoapidcbmlnjcaaM1
namespace Go.Proofs.Ytoapidcbmlnjcaa
open Go.RowKit
set_option linter.unusedVariables false
set_option linter.unusedSimpArgs false

/-- The different ones of the first k steps, in their order. -/
def szF (rs : List (Int × Int)) : Nat → List Int
  | 0 => []
  | k + 1 => if hasF (szF rs k) (ivL (stA rs) k) then szF rs k else putF (szF rs k) (ivL (stA rs) k)
theorem szF_yes {rs : List (Int × Int)} {k : Nat} (h : hasF (szF rs k) (ivL (stA rs) k) = true) : szF rs (k + 1) = szF rs k := by rw [szF, if_pos h]
theorem szF_no {rs : List (Int × Int)} {k : Nat} (h : hasF (szF rs k) (ivL (stA rs) k) = false) : szF rs (k + 1) = putF (szF rs k) (ivL (stA rs) k) := by rw [szF, if_neg (by rw [h]; exact Bool.false_ne_true)]
theorem szF_len (rs : List (Int × Int)) : ∀ k, (szF rs k).length ≤ k
  | 0 => Nat.le_refl _
  | k + 1 => by
    have h := szF_len rs k
    rw [szF]
    split
    · omega
    · have := putF_len (szF rs k) (ivL (stA rs) k)
      omega
def szV (rs : List (Int × Int)) : List Int := if whB rs then szF rs (stA rs).length else []
theorem szV_no {rs : List (Int × Int)} (h : whB rs = false) : szV rs = [] := by rw [szV, h]; rfl
theorem szV_yes {rs : List (Int × Int)} (h : whB rs = true) : szV rs = szF rs (stA rs).length := by rw [szV, h]; rfl
theorem szV_len (rs : List (Int × Int)) : (szV rs).length ≤ 5000 := by
  cases h : whB rs with
  | false => rw [szV_no h]; simp
  | true =>
    have h1 := szF_len rs (stA rs).length
    have h2 := spk_len rs
    have h3 := (whB_parts h).2.2.2.2.2.1
    rw [stA_len] at h1
    rw [szV_yes h, stA_len]
    omega


end Go.Proofs.Ytoapidcbmlnjcaa
