import Derived.Test.YtgnmookklplnmaaB3
namespace Go.Proofs.Ytgnmookklplnmaa
open Go.RowKit
set_option linter.unusedVariables false
set_option linter.unusedSimpArgs false

def perOk (rs : List (Int × Int)) : Bool := goodL rs && !(perF rs == 0)
def perV (rs : List (Int × Int)) : Int := if goodL rs then perF rs else 0
theorem perV_no {rs : List (Int × Int)} (h : perOk rs = false) : perV rs = 0 := by
  rw [perV]
  cases hg : goodL rs with
  | false => rfl
  | true => simpa [perOk, hg] using h
theorem perOk_parts {rs : List (Int × Int)} (h : perOk rs = true) : goodL rs = true ∧ ¬ perF rs = 0 ∧ 1 ≤ perF rs ∧ perF rs ≤ 100000 := by
  simp only [perOk, Bool.and_eq_true, Bool.not_eq_true', beq_eq_false_iff_ne] at h
  have := perF_le h.1
  exact ⟨h.1, h.2, by omega, by omega⟩



def lipV (rs : List (Int × Int)) : Int := if perOk rs then (cntF (leftF rs) 0 (perF rs).toNat : Int) else 0
theorem lip_no {rs : List (Int × Int)} (h : perOk rs = false) : lipV rs = 0 := by rw [lipV, h]; rfl
theorem lip_yes {rs : List (Int × Int)} (h : perOk rs = true) : lipV rs = (cntF (leftF rs) 0 (perF rs).toNat : Int) := by rw [lipV, h]; rfl


end Go.Proofs.Ytgnmookklplnmaa
