import Derived.Test.YtoapidcbmlnjcaaB1
namespace Go.Proofs.Ytoapidcbmlnjcaa
open Go.RowKit
set_option linter.unusedVariables false
set_option linter.unusedSimpArgs false

def okC (rs : List (Int × Int)) (k n : Int) : Bool := okM rs n && inB k 0 ((rs.length : Int) - 1)
def crossP (rs : List (Int × Int)) (K : Nat) (x : Int) : Bool := decide (fIdx rs x = K)
def crossV (rs : List (Int × Int)) (k n : Int) : List Int := if okC rs k n then upF (crossP rs k.toNat) n.toNat else []
theorem crossV_no {rs : List (Int × Int)} {k n : Int} (h : okC rs k n = false) : crossV rs k n = [] := by rw [crossV, h]; rfl
theorem crossV_yes {rs : List (Int × Int)} {K M : Nat} (h : okC rs (K : Int) (M : Int) = true) : crossV rs (K : Int) (M : Int) = upF (crossP rs K) M := by rw [crossV, h, Int.toNat_natCast, Int.toNat_natCast]; rfl
theorem crossP_firstI {rs : List (Int × Int)} {K : Nat} {x : Int} (hK : K < rs.length) : (firstI rs x == (K : Int)) = crossP rs K x := by
  have := fIdx_le rs x
  rw [Bool.eq_iff_iff]
  simp only [beq_iff_eq, crossP, decide_eq_true_eq, firstI]
  split <;> omega
theorem crossP_firstK {rs : List (Int × Int)} {K : Nat} {x : Int} (hK : K < rs.length) : (crossedB rs x && (firstK rs x == (K : Int))) = crossP rs K x := by
  have := fIdx_le rs x
  rw [Bool.eq_iff_iff]
  simp only [Bool.and_eq_true, beq_iff_eq, crossP, decide_eq_true_eq, firstK, crossedB]
  split <;> omega



theorem crossV_len (rs : List (Int × Int)) (k n : Int) : (crossV rs k n).length ≤ 1048576 := by
  rw [crossV]
  split
  · rename_i h
    simp only [okC, Bool.and_eq_true] at h
    have h1 := (okM_most h.1).2
    exact Nat.le_trans (upF_len _ _) (by omega)
  · exact Nat.zero_le _

end Go.Proofs.Ytoapidcbmlnjcaa
