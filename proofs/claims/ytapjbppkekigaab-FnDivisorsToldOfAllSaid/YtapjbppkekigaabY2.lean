import Derived.Test.YtapjbppkekigaabY1
namespace Go.Proofs.Ytapjbppkekigaab
open Go.RowKit
set_option linter.unusedVariables false
set_option linter.unusedSimpArgs false

theorem loF_yes {n k : Nat} (h : n % (k + 1) = 0) : flF (dvP n) 1 (k + 1) = flF (dvP n) 1 k ++ [((k + 1 : Nat) : Int)] := by
  rw [flF_yes (by rw [Nat.add_comm, dvP, decide_eq_true_eq]; exact h), Nat.add_comm 1 k]
theorem loF_no {n k : Nat} (h : n % (k + 1) ≠ 0) : flF (dvP n) 1 (k + 1) = flF (dvP n) 1 k := flF_no (by rw [Nat.add_comm, dvP, decide_eq_false_iff_not]; exact h)
theorem dvD_len {n : Nat} (hn : 1 ≤ n) : (dvD n).length ≤ 2 * rtF n := by
  rw [← dvD_split hn, List.length_append]
  have h1 := flF_len (dvP n) 1 (rtF n)
  have h2 := hiF_len n (rtF n)
  omega
theorem dvD_mem {n : Nat} {z : Int} : z ∈ dvD n ↔ ∃ d : Nat, z = (d : Int) ∧ 1 ≤ d ∧ d ≤ n ∧ n % d = 0 := by
  rw [dvD, mem_flF]
  constructor
  · rintro ⟨i, h1, h2, rfl⟩
    exact ⟨1 + i, rfl, by omega, by omega, of_decide_eq_true h2⟩
  · rintro ⟨d, rfl, h1, h2, h3⟩
    exact ⟨d - 1, by omega, by rw [show 1 + (d - 1) = d by omega]; exact decide_eq_true h3, by rw [show 1 + (d - 1) = d by omega]⟩
/-- The sum of a list's first k. -/
def suK (xs : List Int) (k : Nat) : Int := (xs.take k).foldl (· + ·) 0
theorem suK_succ {xs : List Int} {k : Nat} (h : k < xs.length) : suK xs (k + 1) = suK xs k + xs[k] := by
  rw [suK, List.take_succ_eq_append_getElem h, List.foldl_append]
  rfl
def dvS (n : Nat) : Int := suK (dvD n) (dvD n).length
end Go.Proofs.Ytapjbppkekigaab
