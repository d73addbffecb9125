import Derived.Test.YtjoklbkbggdlgaaE1
import Derived.IntWalk
namespace Go.Proofs.Ytjoklbkbggdlgaa
open Go.RowKit
set_option linter.unusedVariables false
set_option linter.unusedSimpArgs false

/-- The least divisor of at least 2, found by trial; n itself if none has a square of at most n. -/
def lfF : Nat → Nat → Nat → Nat
  | 0, n, _ => n
  | f + 1, n, d => if d * d ≤ n then (if n % d = 0 then d else lfF f n (d + 1)) else n
def leastF (n : Nat) : Nat := lfF n n 2
theorem lfF_cases (n : Nat) : ∀ f d, n < (d + f) * (d + f) → (lfF f n d = n ∧ ∀ q, d ≤ q → q * q ≤ n → n % q ≠ 0) ∨ (d ≤ lfF f n d ∧ lfF f n d * lfF f n d ≤ n ∧ n % lfF f n d = 0 ∧ ∀ q, d ≤ q → q < lfF f n d → n % q ≠ 0)
  | 0, d, h => .inl ⟨rfl, fun q h1 h2 => absurd (Nat.lt_of_lt_of_le h (Nat.mul_le_mul h1 h1)) (by omega)⟩
  | f + 1, d, h => by
    rw [lfF]
    by_cases h1 : d * d ≤ n
    · rw [if_pos h1]
      by_cases h2 : n % d = 0
      · rw [if_pos h2]
        exact .inr ⟨Nat.le_refl _, h1, h2, fun q a b => by omega⟩
      · rw [if_neg h2]
        have ih := lfF_cases n f (d + 1) (by rwa [Nat.add_right_comm, Nat.add_assoc])
        rcases ih with ⟨a, b⟩ | ⟨a, b, c, e⟩
        · refine .inl ⟨a, fun q h3 h4 => ?_⟩
          rcases Nat.lt_or_eq_of_le h3 with h5 | h5
          · exact b q h5 h4
          · rwa [← h5]
        · refine .inr ⟨by omega, b, c, fun q h3 h4 => ?_⟩
          rcases Nat.lt_or_eq_of_le h3 with h5 | h5
          · exact e q h5 h4
          · rwa [← h5]
    · rw [if_neg h1]
      exact .inl ⟨rfl, fun q h3 h4 => absurd (Nat.mul_le_mul h3 h3) (by omega)⟩
theorem leastF_cases (n : Nat) : (leastF n = n ∧ ∀ q, 2 ≤ q → q * q ≤ n → n % q ≠ 0) ∨ (2 ≤ leastF n ∧ leastF n * leastF n ≤ n ∧ n % leastF n = 0 ∧ ∀ q, 2 ≤ q → q < leastF n → n % q ≠ 0) :=
  lfF_cases n n 2 (Nat.lt_of_lt_of_le (by omega : n < 2 + n) (Nat.le_mul_of_pos_left _ (by omega)))
/-- None of 2, .., d - 1 divides n. -/
def noneB (n d : Nat) : Prop := ∀ q, 2 ≤ q → q < d → n % q ≠ 0
theorem noneB_two (n : Nat) : noneB n 2 := fun q h1 h2 => by omega
theorem noneB_succ {n d : Nat} (h : noneB n d) (h2 : n % d ≠ 0) : noneB n (d + 1) := fun q a b => by
  rcases Nat.lt_succ_iff_lt_or_eq.1 b with h3 | h3
  · exact h q a h3
  · rwa [h3]
theorem leastF_hit {n d : Nat} (h : noneB n d) (h2 : 2 ≤ d) (h3 : d * d ≤ n) (h4 : n % d = 0) : leastF n = d := by
  rcases leastF_cases n with ⟨_, b⟩ | ⟨a, b, c, e⟩
  · exact absurd h4 (b d h2 h3)
  · rcases Nat.lt_trichotomy (leastF n) d with h5 | h5 | h5
    · exact absurd c (h _ a h5)
    · exact h5
    · exact absurd h4 (e d h2 h5)
theorem leastF_end {n d : Nat} (h : noneB n d) (h3 : n < d * d) : leastF n = n := by
  rcases leastF_cases n with ⟨a, _⟩ | ⟨a, b, c, e⟩
  · exact a
  · have : leastF n < d := by
      rcases Nat.lt_or_ge (leastF n) d with h5 | h5
      · exact h5
      · exact absurd (Nat.mul_le_mul h5 h5) (by omega)
    exact absurd c (h _ a this)
theorem leastF_le (n : Nat) : leastF n ≤ n := by
  rcases leastF_cases n with ⟨a, _⟩ | ⟨a, b, c, e⟩
  · omega
  · exact Nat.le_trans (Nat.le_mul_of_pos_left _ (by omega)) b
theorem leastF_ge {n : Nat} (h : 2 ≤ n) : 2 ≤ leastF n := by
  rcases leastF_cases n with ⟨a, _⟩ | ⟨a, b, c, e⟩
  · omega
  · exact a
theorem leastF_dvd (n : Nat) : n % leastF n = 0 := by
  rcases leastF_cases n with ⟨a, _⟩ | ⟨a, b, c, e⟩
  · rw [a, Nat.mod_self]
  · exact c
def primeB (n : Nat) : Bool := decide (2 ≤ n) && decide (leastF n = n)
theorem primeB_iff {n : Nat} : primeB n = true ↔ 2 ≤ n ∧ ∀ q, 2 ≤ q → q * q ≤ n → n % q ≠ 0 := by
  rw [primeB, Bool.and_eq_true, decide_eq_true_eq, decide_eq_true_eq]
  rcases leastF_cases n with ⟨a, b⟩ | ⟨a, b, c, e⟩
  · exact ⟨fun h => ⟨h.1, b⟩, fun h => ⟨h.1, a⟩⟩
  · constructor
    · intro ⟨h1, h2⟩
      rw [h2] at b
      have := Nat.le_mul_of_pos_left n (show 0 < n by omega)
      have h3 : n * n = 1 * n := by omega
      have := Nat.eq_of_mul_eq_mul_right (by omega) h3
      omega
    · intro ⟨h1, h2⟩
      exact absurd c (h2 _ a b)
theorem primeB_two {n : Nat} (h : primeB n = true) : 2 ≤ n := (primeB_iff.1 h).1
theorem primeB_small {n : Nat} (h : n < 2) : primeB n = false := by rw [primeB, decide_eq_false (by omega)]; rfl
theorem primeB_of {n : Nat} (h : 2 ≤ n) : primeB n = decide (leastF n = n) := by rw [primeB, decide_eq_true h]; rfl
/-- Whether one of 2, .., d - 1 whose square is at most n divides n. -/
def anyD (n d : Nat) : Bool := (List.range d).any fun q => decide (2 ≤ q ∧ q * q ≤ n ∧ n % q = 0)
theorem anyD_succ (n d : Nat) : anyD n (d + 1) = (anyD n d || decide (2 ≤ d ∧ d * d ≤ n ∧ n % d = 0)) := by simp [anyD, List.range_succ]
theorem anyD_iff {n d : Nat} : anyD n d = true ↔ ∃ q, q < d ∧ 2 ≤ q ∧ q * q ≤ n ∧ n % q = 0 := by simp [anyD]
theorem anyD_two (n : Nat) : anyD n 2 = false := by
  rw [Bool.eq_false_iff]
  intro h
  obtain ⟨q, a, b, _⟩ := anyD_iff.1 h
  omega
theorem anyD_prime {n d : Nat} (h : 2 ≤ n) (hd : n < d * d) : (!anyD n d) = primeB n := by
  rw [Bool.eq_iff_iff, primeB_iff, Bool.not_eq_true', Bool.eq_false_iff, Ne, anyD_iff]
  constructor
  · intro hn
    refine ⟨h, fun q a b c => hn ⟨q, ?_, a, b, c⟩⟩
    rcases Nat.lt_or_ge q d with h5 | h5
    · exact h5
    · exact absurd (Nat.mul_le_mul h5 h5) (by omega)
  · rintro ⟨_, h2⟩ ⟨q, _, a, b, c⟩
    exact h2 q a b c

/-- Of a, a + 1, .. (k of them) those with p, in order. -/
def flF (p : Nat → Bool) (a k : Nat) : List Int := ((List.range k).filter fun i => p (a + i)).map fun i => ((a + i : Nat) : Int)
theorem flF_zero (p : Nat → Bool) (a : Nat) : flF p a 0 = [] := rfl
theorem flF_yes {p : Nat → Bool} {a k : Nat} (h : p (a + k) = true) : flF p a (k + 1) = flF p a k ++ [((a + k : Nat) : Int)] := by
  simp [flF, List.range_succ, List.filter_append, h]
theorem flF_no {p : Nat → Bool} {a k : Nat} (h : p (a + k) = false) : flF p a (k + 1) = flF p a k := by
  simp [flF, List.range_succ, List.filter_append, h]
theorem flF_len (p : Nat → Bool) (a k : Nat) : (flF p a k).length ≤ k := by
  rw [flF, List.length_map]
  exact Nat.le_trans (List.length_filter_le _ _) (by simp)
theorem flF_add (p : Nat → Bool) (a j : Nat) : ∀ k, flF p a (j + k) = flF p a j ++ flF p (a + j) k
  | 0 => by simp [flF_zero]
  | k + 1 => by
    have ih := flF_add p a j k
    cases h : p (a + (j + k)) with
    | true => rw [← Nat.add_assoc, flF_yes h, ih, flF_yes (by rw [Nat.add_assoc]; exact h), List.append_assoc, Nat.add_assoc]
    | false => rw [← Nat.add_assoc, flF_no h, ih, flF_no (by rw [Nat.add_assoc]; exact h)]
theorem flF_none {p : Nat → Bool} {a : Nat} : ∀ {k}, (∀ n, a ≤ n → n < a + k → p n = false) → flF p a k = []
  | 0, _ => rfl
  | k + 1, h => by rw [flF_no (h _ (by omega) (by omega)), flF_none (fun n h1 h2 => h n h1 (by omega))]
theorem flF_skip {p : Nat → Bool} {a j k : Nat} (h : ∀ n, a ≤ n → n < a + j → p n = false) : flF p a (j + k) = flF p (a + j) k := by
  rw [flF_add, flF_none h, List.nil_append]
theorem flF_cut {p : Nat → Bool} {a j k : Nat} (h : ∀ n, a + j ≤ n → n < a + j + k → p n = false) : flF p a (j + k) = flF p a j := by
  rw [flF_add, flF_none h, List.append_nil]
theorem flF_congr {p q : Nat → Bool} {a : Nat} : ∀ {k}, (∀ n, a ≤ n → n < a + k → p n = q n) → flF p a k = flF q a k
  | 0, _ => rfl
  | k + 1, h => by
    have ih := flF_congr (k := k) fun n h1 h2 => h n h1 (by omega)
    have e := h (a + k) (by omega) (by omega)
    cases hq : q (a + k) with
    | true => rw [flF_yes hq, flF_yes (by rw [e]; exact hq), ih]
    | false => rw [flF_no hq, flF_no (by rw [e]; exact hq), ih]
theorem flF_mem {p : Nat → Bool} {a k : Nat} {x : Int} : x ∈ flF p a k ↔ ∃ n : Nat, x = (n : Int) ∧ a ≤ n ∧ n < a + k ∧ p n = true := by
  simp only [flF, List.mem_map, List.mem_filter, List.mem_range]
  constructor
  · rintro ⟨i, ⟨h1, h2⟩, rfl⟩
    exact ⟨a + i, rfl, by omega, by omega, h2⟩
  · rintro ⟨n, rfl, h1, h2, h3⟩
    have e : a + (n - a) = n := by omega
    exact ⟨n - a, ⟨by omega, by rwa [e]⟩, by rw [e]⟩
/-- A list filtered once more. -/
theorem flF_filter (p q : Nat → Bool) (a : Nat) : ∀ k, (flF p a k).filter (fun x => q x.toNat) = flF (fun n => p n && q n) a k
  | 0 => rfl
  | k + 1 => by
    have ih := flF_filter p q a k
    cases h : p (a + k) with
    | true =>
      rw [flF_yes h, List.filter_append, ih]
      cases h2 : q (a + k) with
      | true => rw [flF_yes (p := fun n => p n && q n) (by simp [h, h2])]; simp only [List.filter_cons, Int.toNat_natCast, h2, List.filter_nil]; rfl
      | false => rw [flF_no (p := fun n => p n && q n) (by simp [h2])]; simp only [List.filter_cons, Int.toNat_natCast, h2, List.filter_nil]; simp
    | false => rw [flF_no h, flF_no (p := fun n => p n && q n) (by simp [h]), ih]

/-- The primes from lo to hi. -/
def prB (lo hi : Nat) : List Int := flF primeB lo (hi + 1 - lo)
theorem prB_two (lo hi : Nat) : prB lo hi = prB (max lo 2) hi := by
  unfold prB
  by_cases h : 2 ≤ lo
  · rw [Nat.max_eq_left h]
  · rw [Nat.max_eq_right (by omega)]
    by_cases h2 : 2 ≤ hi
    · rw [show hi + 1 - lo = (2 - lo) + (hi + 1 - 2) by omega, flF_skip (fun n _ h3 => primeB_small (by omega)), show lo + (2 - lo) = 2 by omega]
    · rw [show hi + 1 - 2 = 0 by omega, flF_none (fun n _ h3 => primeB_small (by omega))]
      rfl
theorem prB_len (lo hi : Nat) : (prB lo hi).length ≤ hi + 1 - lo := flF_len _ _ _

end Go.Proofs.Ytjoklbkbggdlgaa
