import Derived.Test.YtoapidcbmlnjcaaS3
namespace Go.Proofs.Ytoapidcbmlnjcaa
open Go.RowKit
set_option linter.unusedVariables false
set_option linter.unusedSimpArgs false

/-- Whether the first k numbers are left exactly if those b on are. -/
def smF (rs : List (Int × Int)) (b : Nat) (k : Nat) : Bool := (List.range k).all fun n => leftF rs (n : Int) == leftF rs ((n : Int) + (b : Int))
theorem smF_succ (rs : List (Int × Int)) (b k : Nat) : smF rs b (k + 1) = (smF rs b k && (leftF rs (k : Int) == leftF rs ((k : Int) + (b : Int)))) := by
  rw [smF, List.range_succ, List.all_append]
  simp [smF]
theorem smF_up {rs : List (Int × Int)} {b k m : Nat} (h : k ≤ m) (hf : smF rs b k = false) : smF rs b m = false := by
  induction m with
  | zero => rwa [show k = 0 by omega] at hf
  | succ m ih =>
    rw [smF_succ]
    by_cases hk : k = m + 1
    · rw [← smF_succ, ← hk]; exact hf
    · rw [ih (by omega)]; rfl
def lpB (rs : List (Int × Int)) (b : Nat) : Bool := (((whP rs : Int) % (b : Int)) == 0) && smF rs b (whP rs)
theorem lpB_per {rs : List (Int × Int)} (h : whB rs = true) : lpB rs (whP rs) = true := by
  rw [lpB, Int.emod_self]
  have e : smF rs (whP rs) (whP rs) = true := by
    rw [smF, List.all_eq_true]
    intro n _
    rw [wh_per1 h]
    simp
  rw [e]
  rfl
/-- The least one from b on. -/
def lpGo (rs : List (Int × Int)) : Nat → Nat → Nat
  | 0, b => b
  | f + 1, b => if lpB rs b then b else lpGo rs f (b + 1)
def lpD (rs : List (Int × Int)) (b : Nat) : Nat := lpGo rs (whP rs - b) b
theorem lpD_yes {rs : List (Int × Int)} {b : Nat} (h : lpB rs b = true) : lpD rs b = b := by
  rw [lpD]
  cases whP rs - b with
  | zero => rfl
  | succ f => rw [lpGo, if_pos h]
theorem lpD_no {rs : List (Int × Int)} {b : Nat} (hb : b < whP rs) (h : lpB rs b = false) : lpD rs b = lpD rs (b + 1) := by
  rw [lpD, show whP rs - b = (whP rs - (b + 1)) + 1 by omega, lpGo, if_neg (by rw [h]; exact Bool.false_ne_true), lpD]
def lpV (rs : List (Int × Int)) : Int := if whB rs then (lpD rs 1 : Int) else 0
theorem lpV_no {rs : List (Int × Int)} (h : whB rs = false) : lpV rs = 0 := by rw [lpV, h]; rfl
theorem lpV_yes {rs : List (Int × Int)} (h : whB rs = true) : lpV rs = (lpD rs 1 : Int) := by rw [lpV, h]; rfl



end Go.Proofs.Ytoapidcbmlnjcaa
