import Derived.Test.YtehppjdiegoeeaaG4
import Derived.Test.YtehppjdiegoeeaaK3
namespace Go.Proofs.Ytehppjdiegoeeaa
open Go.RowKit
set_option linter.unusedVariables false
set_option linter.unusedSimpArgs false

/-- A callee that leaves the world as it is, called in a region that draws its order. -/
theorem qcallS {P : Program} {f : FuncId} {args : Array Value} {w : World} {n : Nat} {v : Value} (h : Calls P f args (w.drewN n) fun e w' => e = .returned v ∧ w.drewN n = w') :
    Calls P f args (w.drewN n) fun e w'' => e = .returned v ∧ ∃ m, w'' = w.drewN m := h.mono fun _ _ hh => ⟨hh.1, n, hh.2.symm⟩

/-! Factors that came in. -/
def pA (ps : List (List Int)) (i : Nat) : Int := ivL (psL ps i) 0
def eA (ps : List (List Int)) (i : Nat) : Int := ivL (psL ps i) 1
def befA (ps : List (List Int)) : Nat → Int
  | 0 => 0
  | i + 1 => pA ps i
/-- Whether list i is a prime, greater than the one before, and an exponent. -/
def sB (ps : List (List Int)) (i : Nat) : Bool := decide ((psL ps i).length = 2 ∧ primeB (pA ps i).toNat = true ∧ pA ps i ≤ 1000000000 ∧ 1 ≤ eA ps i ∧ befA ps i < pA ps i)
theorem sB_true {ps : List (List Int)} {i : Nat} : sB ps i = true ↔ (psL ps i).length = 2 ∧ primeB (pA ps i).toNat = true ∧ pA ps i ≤ 1000000000 ∧ 1 ≤ eA ps i ∧ befA ps i < pA ps i := by rw [sB, decide_eq_true_eq]
theorem sB_false {ps : List (List Int)} {i : Nat} (h : ¬ ((psL ps i).length = 2 ∧ primeB (pA ps i).toNat = true ∧ pA ps i ≤ 1000000000 ∧ 1 ≤ eA ps i ∧ befA ps i < pA ps i)) : sB ps i = false := decide_eq_false h
def prodE (ps : List (List Int)) : Nat → Nat
  | 0 => 1
  | i + 1 => prodE ps i * (pA ps i).toNat ^ (eA ps i).toNat
theorem sB_two {ps : List (List Int)} {i : Nat} (h : sB ps i = true) : 2 ≤ (pA ps i).toNat := primeB_two (sB_true.1 h).2.1
theorem prodE_pos {ps : List (List Int)} : ∀ i, (∀ j, j < i → sB ps j = true) → 1 ≤ prodE ps i
  | 0, _ => Nat.le_refl _
  | i + 1, h => by
    have h1 := prodE_pos i fun j hj => h j (by omega)
    have h2 := sB_two (h i (by omega))
    have h3 : 1 ≤ (pA ps i).toNat ^ (eA ps i).toNat := Nat.one_le_pow _ _ (by omega)
    exact Nat.mul_pos h1 h3
theorem prodE_mono {ps : List (List Int)} : ∀ (d i : Nat), (∀ j, j < i + d → sB ps j = true) → prodE ps i ≤ prodE ps (i + d)
  | 0, i, _ => Nat.le_refl _
  | d + 1, i, h => by
    have h1 := prodE_mono d i fun j hj => h j (by omega)
    have h2 := sB_two (h (i + d) (by omega))
    have h3 : 1 ≤ (pA ps (i + d)).toNat ^ (eA ps (i + d)).toNat := Nat.one_le_pow _ _ (by omega)
    have h4 : prodE ps (i + d) ≤ prodE ps (i + (d + 1)) := by
      show _ ≤ prodE ps (i + d) * _
      exact Nat.le_mul_of_pos_right _ h3
    omega
def strB (ps : List (List Int)) : Bool := decide (ps.length ≤ 30 ∧ ∀ i, i < ps.length → sB ps i = true)
theorem strB_true {ps : List (List Int)} : strB ps = true ↔ ps.length ≤ 30 ∧ ∀ i, i < ps.length → sB ps i = true := by rw [strB, decide_eq_true_eq]
theorem strB_len {ps : List (List Int)} (h : ¬ ps.length ≤ 30) : strB ps = false := decide_eq_false fun hh => h hh.1
theorem strB_at {ps : List (List Int)} {i : Nat} (hi : i < ps.length) (h : sB ps i = false) : strB ps = false := decide_eq_false fun hh => by rw [hh.2 i hi] at h; cases h
def okN (ps : List (List Int)) : Bool := strB ps && decide (prodE ps ps.length ≤ 1000000000)
theorem okN_str {ps : List (List Int)} (h : strB ps = false) : okN ps = false := by rw [okN, h]; rfl
theorem okN_prod {ps : List (List Int)} {i j : Nat} (hi : i < ps.length) (hj : j ≤ (eA ps i).toNat) (h : 1000000000 < prodE ps i * (pA ps i).toNat ^ j) : okN ps = false := by
  rw [okN]
  cases hs : strB ps with
  | false => rfl
  | true =>
    rw [Bool.true_and]
    refine decide_eq_false fun hh => ?_
    obtain ⟨_, hall⟩ := strB_true.1 hs
    have h1 := prodE_mono (ps := ps) (ps.length - (i + 1)) (i + 1) fun k hk => hall k (by omega)
    rw [show i + 1 + (ps.length - (i + 1)) = ps.length by omega] at h1
    have h2 := sB_two (hall i hi)
    have h3 : (pA ps i).toNat ^ j ≤ (pA ps i).toNat ^ (eA ps i).toNat := Nat.pow_le_pow_right (by omega) hj
    have h4 : prodE ps i * (pA ps i).toNat ^ j ≤ prodE ps (i + 1) := Nat.mul_le_mul_left _ h3
    omega
theorem okN_e30 {ps : List (List Int)} {i : Nat} (hi : i < ps.length) (h : 30 < eA ps i) : okN ps = false := by
  cases hs : strB ps with
  | false => exact okN_str hs
  | true =>
    obtain ⟨_, hall⟩ := strB_true.1 hs
    refine okN_prod hi (j := 31) (by omega) ?_
    have h1 := prodE_pos i fun k hk => hall k (by omega)
    have h2 := sB_two (hall i hi)
    have h3 : 2 ^ 31 ≤ (pA ps i).toNat ^ 31 := Nat.pow_le_pow_left h2 _
    have h4 := Nat.le_mul_of_pos_left ((pA ps i).toNat ^ 31) (show 0 < prodE ps i by omega)
    omega
theorem okN_yes {ps : List (List Int)} (h : ps.length ≤ 30) (h2 : ∀ j, j < ps.length → sB ps j = true) (h3 : prodE ps ps.length ≤ 1000000000) : okN ps = true := by
  rw [okN, strB_true.2 ⟨h, h2⟩, decide_eq_true h3]; rfl
def nV (ps : List (List Int)) : Int := if okN ps then (prodE ps ps.length : Int) else 0
theorem nV_no {ps : List (List Int)} (h : okN ps = false) : nV ps = 0 := by rw [nV, h]; rfl
theorem nV_yes {ps : List (List Int)} (h : okN ps = true) : nV ps = (prodE ps ps.length : Int) := by rw [nV, h]; rfl
theorem all_succ {ps : List (List Int)} {i : Nat} (h : ∀ j, j < i → sB ps j = true) (h2 : sB ps i = true) : ∀ j, j < i + 1 → sB ps j = true := fun j hj => by
  rcases Nat.lt_succ_iff_lt_or_eq.1 hj with h3 | h3
  · exact h j h3
  · rw [h3]; exact h2
theorem prodE_succ (ps : List (List Int)) (i : Nat) : prodE ps (i + 1) = prodE ps i * (pA ps i).toNat ^ (eA ps i).toNat := rfl



end Go.Proofs.Ytehppjdiegoeeaa
