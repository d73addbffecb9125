import Derived.Test.YtoapidcbmlnjcaaB0
namespace Go.Proofs.Ytoapidcbmlnjcaa
open Go.RowKit
set_option linter.unusedVariables false
set_option linter.unusedSimpArgs false

/-- The numbers in 1..600 that are left. -/
def allLeft (rs : List (Int × Int)) : List Int := upF (leftF rs) 600
theorem allLeft_len (rs : List (Int × Int)) : (allLeft rs).length ≤ 600 := upF_len _ _
def rankOk (rs : List (Int × Int)) (r : Int) : Bool := goodL rs && decide (0 ≤ r ∧ r < (allLeft rs).length)
def rankV (rs : List (Int × Int)) (r : Int) : Int := if rankOk rs r then (allLeft rs).getD r.toNat 0 else 0
theorem rank_no {rs : List (Int × Int)} {r : Int} (h : rankOk rs r = false) : rankV rs r = 0 := by rw [rankV, h]; rfl
theorem rank_yes {rs : List (Int × Int)} {K : Nat} (h : rankOk rs (K : Int) = true) : rankV rs (K : Int) = (allLeft rs).getD K 0 := by rw [rankV, h, Int.toNat_natCast]; rfl



/-- How many steps behind n the first number with p is, at most 1000. -/
def nextI (p : Int → Bool) (n : Int) : Nat := (List.range 1000).findIdx fun i : Nat => p (n + 1 + (i : Int))
theorem nextI_of {p : Int → Bool} {n : Int} {k : Nat} (hk : k < 1000) (h : ∀ j : Nat, j < k → p (n + 1 + (j : Int)) = false) (hc : p (n + 1 + (k : Int)) = true) : nextI p n = k := by
  rw [nextI, List.findIdx_eq (by rw [List.length_range]; exact hk)]
  exact ⟨by rw [List.getElem_range]; exact hc, fun j hj => by rw [List.getElem_range]; exact h j hj⟩
theorem nextI_none {p : Int → Bool} {n : Int} (h : ∀ j : Nat, j < 1000 → p (n + 1 + (j : Int)) = false) : nextI p n = 1000 := by
  have : nextI p n = (List.range 1000).length := by
    rw [nextI, List.findIdx_eq_length]
    intro x hx
    exact h x (List.mem_range.1 hx)
  rw [this, List.length_range]
def nextOk (rs : List (Int × Int)) (n : Int) : Bool := okN rs n && decide (nextI (leftF rs) n < 1000)
def nextV (rs : List (Int × Int)) (n : Int) : Int := if nextOk rs n then n + 1 + (nextI (leftF rs) n : Int) else 0
theorem next_no {rs : List (Int × Int)} {n : Int} (h : nextOk rs n = false) : nextV rs n = 0 := by rw [nextV, h]; rfl
theorem next_of {rs : List (Int × Int)} {n : Int} {k : Nat} (hg : goodL rs = true) (hn : numB n = true) (hk : k < 1000) (h : ∀ j : Nat, j < k → leftF rs (n + 1 + (j : Int)) = false) (hc : leftF rs (n + 1 + (k : Int)) = true) :
    nextV rs n = n + 1 + (k : Int) ∧ nextOk rs n = true := by
  have h2 : nextOk rs n = true := by rw [nextOk, okN, hg, hn, nextI_of hk h hc, decide_eq_true hk]; rfl
  exact ⟨by rw [nextV, h2, nextI_of hk h hc]; rfl, h2⟩
theorem next_none {rs : List (Int × Int)} {n : Int} (h : ∀ j : Nat, j < 1000 → leftF rs (n + 1 + (j : Int)) = false) : nextV rs n = 0 ∧ nextOk rs n = false := by
  have h2 : nextOk rs n = false := by rw [nextOk, nextI_none h]; simp
  exact ⟨next_no h2, h2⟩



end Go.Proofs.Ytoapidcbmlnjcaa
