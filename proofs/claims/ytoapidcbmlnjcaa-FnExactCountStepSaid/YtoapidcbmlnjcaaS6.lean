import Derived.Test.YtoapidcbmlnjcaaS5
namespace Go.Proofs.Ytoapidcbmlnjcaa
open Go.RowKit
set_option linter.unusedVariables false
set_option linter.unusedSimpArgs false

def rwP (rs : List (Int × Int)) (n : Int) : Bool := whB rs && inB n 2 60 && primeB n.toNat && decide (¬ (whP rs : Int) % n = 0) && decide (¬ rs.length = 12)
def rwO (rs : List (Int × Int)) (n : Int) : Bool := rwP rs n && whB (rs ++ [(n, 0)])
def rwV (rs : List (Int × Int)) (n : Int) : List Int := if rwO rs n then spk (rs ++ [(n, 0)]) else []
theorem rwV_no {rs : List (Int × Int)} {n : Int} (h : rwO rs n = false) : rwV rs n = [] := by rw [rwV, h]; rfl
theorem rwV_yes {rs : List (Int × Int)} {n : Int} (h : rwO rs n = true) : rwV rs n = spk (rs ++ [(n, 0)]) := by rw [rwV, h]; rfl
theorem rwV_len (rs : List (Int × Int)) (n : Int) : (rwV rs n).length ≤ 5000 := by
  cases h : rwO rs n with
  | false => rw [rwV_no h]; simp
  | true =>
    rw [rwV_yes h]
    have h1 := spk_len (rs ++ [(n, 0)])
    rw [rwO, Bool.and_eq_true] at h
    have h2 := (whB_parts h.2).2.2.2.2.2.1
    omega


end Go.Proofs.Ytoapidcbmlnjcaa
