import Derived.Test.YtgkciiklgadgkaaKN
namespace Go.Proofs.Ytgkciiklgadgkaa
open Go.RowKit
set_option linter.unusedVariables false
set_option linter.unusedSimpArgs false

/-- The prime with an index. -/
def rpF (k : Nat) : Nat := [2, 3, 5, 7, 11, 13].getD k 0
theorem rpF_all : ∀ k, k < 6 → 2 ≤ rpF k ∧ rpF k ≤ 13 := by decide
/-- Numbers that grow. -/
def incB (xs : List Int) : Bool := (List.range (xs.length - 1)).all fun k => decide (ivL xs k < ivL xs (k + 1))
theorem incB_iff {xs : List Int} : incB xs = true ↔ ∀ k, k + 1 < xs.length → ivL xs k < ivL xs (k + 1) := by
  rw [incB, List.all_eq_true]
  constructor
  · exact fun h k hk => of_decide_eq_true (h k (List.mem_range.2 (by omega)))
  · exact fun h k hk => decide_eq_true (h k (by have := List.mem_range.1 hk; omega))
theorem incB_yes {xs : List Int} (h : ∀ k, k + 1 < xs.length → ivL xs k < ivL xs (k + 1)) : incB xs = true := incB_iff.2 h
theorem incB_no {xs : List Int} {k : Nat} (hk : k + 1 < xs.length) (h : ¬ ivL xs k < ivL xs (k + 1)) : incB xs = false := by
  rw [Bool.eq_false_iff]
  exact fun hh => h (incB_iff.1 hh k hk)
def goodP (xs : List Int) : Bool := inB (xs.length : Int) 1 8 && (ivL xs 0 == 0) && incB xs && decide (ivL xs (xs.length - 1) ≤ 60)
theorem goodP_parts {xs : List Int} (h : goodP xs = true) : 1 ≤ xs.length ∧ xs.length ≤ 8 ∧ ivL xs 0 = 0 ∧ (∀ k, k + 1 < xs.length → ivL xs k < ivL xs (k + 1)) ∧ ivL xs (xs.length - 1) ≤ 60 := by
  simp only [goodP, Bool.and_eq_true, beq_iff_eq, incB_iff, decide_eq_true_eq] at h
  obtain ⟨⟨⟨h1, h2⟩, h3⟩, h4⟩ := h
  have := inB_true.1 h1
  exact ⟨by omega, by omega, h2, h3, h4⟩
theorem inc_le {xs : List Int} (h : ∀ k, k + 1 < xs.length → ivL xs k < ivL xs (k + 1)) {i : Nat} : ∀ j, i ≤ j → j < xs.length → ivL xs i ≤ ivL xs j
  | 0, h1, h2 => by rw [show i = 0 by omega]; exact Int.le_refl _
  | j + 1, h1, h2 => by
    by_cases he : i = j + 1
    · rw [he]; exact Int.le_refl _
    · have a := inc_le h (i := i) j (by omega) (by omega)
      have b := h j h2
      omega
theorem goodP_at {xs : List Int} (h : goodP xs = true) {k : Nat} (hk : k < xs.length) : 0 ≤ ivL xs k ∧ ivL xs k ≤ 60 := by
  obtain ⟨h1, _, h0, hi, hl⟩ := goodP_parts h
  have a := inc_le hi (i := 0) k (by omega) hk
  have b := inc_le hi (i := k) (xs.length - 1) (by omega) (by omega)
  omega
theorem goodP_mem {xs : List Int} (h : goodP xs = true) {x : Int} (hx : x ∈ xs) : 0 ≤ x ∧ x ≤ 60 := by
  obtain ⟨k, hk, rfl⟩ := List.mem_iff_getElem.1 hx
  have := goodP_at h hk
  rwa [show ivL xs k = xs[k] by simp [ivL, hk]] at this
/-- Whether an offset has a remainder. -/
def hasR (xs : List Int) (p r : Nat) : Bool := decide (∃ k, k < xs.length ∧ ivL xs k % (p : Int) = (r : Int))
theorem hasR_yes {xs : List Int} {p r k : Nat} (hk : k < xs.length) (h : ivL xs k % (p : Int) = (r : Int)) : hasR xs p r = true := decide_eq_true ⟨k, hk, h⟩
theorem hasR_no {xs : List Int} {p r : Nat} (h : ∀ k, k < xs.length → ivL xs k % (p : Int) ≠ (r : Int)) : hasR xs p r = false := decide_eq_false fun ⟨k, h1, h2⟩ => h k h1 h2
/-- The remainders, of the first r. -/
def rsF (xs : List Int) (p : Nat) : Nat → List Int
  | 0 => []
  | r + 1 => if hasR xs p r then rsF xs p r ++ [(r : Int)] else rsF xs p r
theorem rsF_yes {xs : List Int} {p r : Nat} (h : hasR xs p r = true) : rsF xs p (r + 1) = rsF xs p r ++ [(r : Int)] := by rw [rsF, if_pos h]
theorem rsF_no {xs : List Int} {p r : Nat} (h : hasR xs p r = false) : rsF xs p (r + 1) = rsF xs p r := by rw [rsF, if_neg (by rw [h]; exact Bool.false_ne_true)]
theorem rsF_len (xs : List Int) (p : Nat) : ∀ r, (rsF xs p r).length ≤ r
  | 0 => Nat.le_refl _
  | r + 1 => by
    have := rsF_len xs p r
    rw [rsF]
    split
    · rw [List.length_append, List.length_singleton]; omega
    · omega
def rsA (xs : List Int) (p : Nat) : List Int := rsF xs p p
theorem rsA_len (xs : List Int) (p : Nat) : (rsA xs p).length ≤ p := rsF_len xs p p
theorem rsF_mem {xs : List Int} {p : Nat} {x : Int} : ∀ r, x ∈ rsF xs p r ↔ ∃ k : Nat, k < r ∧ hasR xs p k = true ∧ x = (k : Int)
  | 0 => by simp [rsF]
  | r + 1 => by
    have ih := rsF_mem (xs := xs) (p := p) (x := x) r
    cases h : hasR xs p r with
    | true =>
      rw [rsF_yes h, List.mem_append, ih, List.mem_singleton]
      constructor
      · rintro (⟨k, a, b, c⟩ | e)
        · exact ⟨k, by omega, b, c⟩
        · exact ⟨r, by omega, h, e⟩
      · rintro ⟨k, a, b, c⟩
        by_cases hk : k = r
        · exact .inr (by rw [c, hk])
        · exact .inl ⟨k, by omega, b, c⟩
    | false =>
      rw [rsF_no h, ih]
      constructor
      · rintro ⟨k, a, b, c⟩; exact ⟨k, by omega, b, c⟩
      · rintro ⟨k, a, b, c⟩
        by_cases hk : k = r
        · rw [hk, h] at b; cases b
        · exact ⟨k, by omega, b, c⟩
/-- Whether a number is one of the first six primes. -/
def reB (p : Int) : Bool := (List.range 6).any fun k => (rpF k : Int) == p
theorem reB_iff {p : Int} : reB p = true ↔ ∃ k, k < 6 ∧ p = (rpF k : Int) := by
  rw [reB, List.any_eq_true]
  constructor
  · rintro ⟨k, a, b⟩; exact ⟨k, List.mem_range.1 a, (beq_iff_eq.1 b).symm⟩
  · rintro ⟨k, a, b⟩; exact ⟨k, List.mem_range.2 a, beq_iff_eq.2 b.symm⟩
theorem reB_no {p : Int} (h : ∀ k, k < 6 → (rpF k : Int) ≠ p) : reB p = false := by
  rw [Bool.eq_false_iff]
  intro hh
  obtain ⟨k, a, b⟩ := reB_iff.1 hh
  exact h k a b.symm

end Go.Proofs.Ytgkciiklgadgkaa
