import Derived.Test.YtapjbppkekigaabZ0
import Derived.Test.YtapjbppkekigaabY2
namespace Go.Proofs.Ytapjbppkekigaab
open Go.RowKit
set_option linter.unusedVariables false
set_option linter.unusedSimpArgs false

/-! Products over divisors. -/
def tvF (a b : List Int) (n d : Nat) : Int := if n % d = 0 then ivL a (d - 1) * ivL b (n / d - 1) else 0
def ovS (a b : List Int) (n : Nat) : Nat → Int
  | 0 => 0
  | k + 1 => ovS a b n k + tvF a b n (k + 1)
def ovF (a b : List Int) (n : Nat) : Int := ovS a b n n
def ovL (a b : List Int) (m : Nat) : List Int := (List.range m).map fun i => ovF a b (i + 1)
theorem ovL_len (a b : List Int) (m : Nat) : (ovL a b m).length = m := by simp [ovL]
theorem ovL_at {a b : List Int} {m i : Nat} (h : i < m) : ivL (ovL a b m) i = ovF a b (i + 1) := by simp [ovL, ivL, h]
theorem ovS_past (a b : List Int) {n : Nat} (hn : 1 ≤ n) : ∀ d, ovS a b n (n + d) = ovF a b n
  | 0 => rfl
  | d + 1 => by
    have ih := ovS_past a b hn d
    rw [← Nat.add_assoc, ovS, ih, tvF, if_neg (by rw [Nat.mod_eq_of_lt (by omega)]; omega), Int.add_zero]
theorem ovS_all (a b : List Int) {n m : Nat} (hn : 1 ≤ n) (h : n ≤ m) : ovS a b n m = ovF a b n := by
  have := ovS_past a b hn (m - n)
  rwa [show n + (m - n) = m by omega] at this
def ovM (a b : List Int) (n d k : Nat) : Int := ovS a b n (d - 1) + if n % d = 0 ∧ n / d < k then tvF a b n d else 0
theorem ovM_start (a b : List Int) {n d : Nat} (hn : 1 ≤ n) (hd : 1 ≤ d) : ovM a b n d 1 = ovS a b n (d - 1) := by
  have h : ¬ (n % d = 0 ∧ n / d < 1) := fun h => by
    have := Nat.le_of_dvd (by omega) (Nat.dvd_of_mod_eq_zero h.1)
    have := Nat.div_pos this (by omega)
    omega
  rw [ovM, if_neg h, Int.add_zero]
theorem ovM_end (a b : List Int) {n d k m : Nat} (hd : 1 ≤ d) (hm : m < k * d) (h : n ≤ m) : ovM a b n d k = ovS a b n d := by
  obtain ⟨e, rfl⟩ : ∃ e, d = e + 1 := ⟨d - 1, by omega⟩
  have hk : n / (e + 1) < k := by rw [Nat.div_lt_iff_lt_mul (by omega)]; omega
  rw [ovM, ovS, tvF]
  by_cases h0 : n % (e + 1) = 0
  · rw [if_pos ⟨h0, hk⟩, if_pos h0]; rfl
  · rw [if_neg (fun hh => h0 hh.1), if_neg h0]; rfl
theorem ovM_hit (a b : List Int) {d k : Nat} (hd : 1 ≤ d) : ovM a b (k * d) d (k + 1) = ovM a b (k * d) d k + ivL a (d - 1) * ivL b (k - 1) := by
  have h0 : k * d % d = 0 := Nat.mul_mod_left k d
  have h1 : k * d / d = k := Nat.mul_div_cancel _ (by omega)
  rw [ovM, ovM, if_pos ⟨h0, by omega⟩, if_neg (by omega), tvF, if_pos h0, h1]
  omega
theorem ovM_other (a b : List Int) {n d k : Nat} (hn : n ≠ k * d) : ovM a b n d (k + 1) = ovM a b n d k := by
  have h : (n % d = 0 ∧ n / d < k + 1) ↔ (n % d = 0 ∧ n / d < k) := by
    constructor
    · rintro ⟨h0, h1⟩
      refine ⟨h0, ?_⟩
      rcases Nat.lt_succ_iff_lt_or_eq.1 h1 with h2 | h2
      · exact h2
      · exact absurd (by rw [← h2, Nat.div_mul_cancel (Nat.dvd_of_mod_eq_zero h0)]) hn
    · rintro ⟨h0, h1⟩; exact ⟨h0, by omega⟩
  simp only [ovM, h]
/-- Numbers of a table are small. -/
theorem mul_small {x y : Int} (hx : -1000000 ≤ x ∧ x ≤ 1000000) (hy : -1000000 ≤ y ∧ y ≤ 1000000) : -1000000000000 ≤ x * y ∧ x * y ≤ 1000000000000 := by
  have h1 : x.natAbs ≤ 1000000 := by omega
  have h2 : y.natAbs ≤ 1000000 := by omega
  have h3 := Nat.mul_le_mul h1 h2
  rw [← Int.natAbs_mul] at h3
  omega
def smallL (xs : List Int) : Prop := ∀ k, -1000000 ≤ ivL xs k ∧ ivL xs k ≤ 1000000
theorem tvF_bound {a b : List Int} (ha : smallL a) (hb : smallL b) (n d : Nat) : -1000000000000 ≤ tvF a b n d ∧ tvF a b n d ≤ 1000000000000 := by
  rw [tvF]
  split
  · exact mul_small (ha _) (hb _)
  · omega
theorem ovS_bound {a b : List Int} (ha : smallL a) (hb : smallL b) (n : Nat) : ∀ k : Nat, -(1000000000000 * (k : Int)) ≤ ovS a b n k ∧ ovS a b n k ≤ 1000000000000 * (k : Int)
  | 0 => by simp [ovS]
  | k + 1 => by
    have h1 := ovS_bound ha hb n k
    have h2 := tvF_bound ha hb n (k + 1)
    rw [ovS]
    omega
theorem ovM_bound {a b : List Int} (ha : smallL a) (hb : smallL b) (n d k : Nat) : -(1000000000000 * (d : Int) + 1000000000000) ≤ ovM a b n d k ∧ ovM a b n d k ≤ 1000000000000 * (d : Int) + 1000000000000 := by
  have h1 := ovS_bound ha hb n (d - 1)
  have h2 := tvF_bound ha hb n d
  rw [ovM]
  split <;> omega
/- Tables undone. -/
def unf (a l : List Int) (n : Nat) (x : Int) : Int := if x < (n : Int) then ivL l (x.toNat - 1) * ivL a (n / x.toNat - 1) else 0
def unV (a l : List Int) (n : Nat) : Int := ((if n = 1 then 1 else 0) - suF (unf a l n) (dvD n)) * ivL a 0
def unL (a : List Int) : Nat → List Int
  | 0 => []
  | n + 1 => unL a n ++ [unV a (unL a n) (n + 1)]
theorem unL_len (a : List Int) : ∀ n, (unL a n).length = n
  | 0 => rfl
  | n + 1 => by rw [unL, List.length_append, unL_len a n]; rfl
theorem unL_past {a : List Int} {i : Nat} : ∀ {n d : Nat}, i < n → ivL (unL a (n + d)) i = ivL (unL a n) i
  | n, 0, h => rfl
  | n, d + 1, h => by
    have ih := unL_past (a := a) (n := n) (d := d) h
    have hl := unL_len a (n + d)
    rw [← ih, ← Nat.add_assoc, unL, ivL, ivL, List.getD_eq_getElem?_getD, List.getD_eq_getElem?_getD, List.getElem?_append_left (by omega)]
/- Spread tables. -/
def spB (xs : List Int) (m n : Nat) : Bool := !(Nat.gcd m n == 1) || (ivL xs (m * n - 1) == ivL xs (m - 1) * ivL xs (n - 1))
def spRow (xs : List Int) (m : Nat) : Bool := (List.range (xs.length + 1)).all fun n => decide (n < 2) || decide (xs.length < m * n) || spB xs m n
def spAll (xs : List Int) : Bool := (List.range (xs.length + 1)).all fun m => decide (m < 2) || spRow xs m
theorem spRow_true {xs : List Int} {m : Nat} (hm : 1 ≤ m) (h : ∀ n, 2 ≤ n → m * n ≤ xs.length → spB xs m n = true) : spRow xs m = true := by
  rw [spRow, List.all_eq_true]
  intro n hn
  by_cases h1 : n < 2
  · simp [h1]
  · by_cases h2 : xs.length < m * n
    · simp [h2]
    · simp [h n (by omega) (by omega)]
theorem spRow_false {xs : List Int} {m n : Nat} (hm : 1 ≤ m) (h1 : 2 ≤ n) (h2 : m * n ≤ xs.length) (h : spB xs m n = false) : spRow xs m = false := by
  rw [spRow, List.all_eq_false]
  refine ⟨n, List.mem_range.2 ?_, ?_⟩
  · have := Nat.mul_le_mul hm (Nat.le_refl n); omega
  · simp [h, show ¬ n < 2 by omega, show ¬ xs.length < m * n by omega]
theorem spAll_true {xs : List Int} (h : ∀ m, 2 ≤ m → m ≤ xs.length → spRow xs m = true) : spAll xs = true := by
  rw [spAll, List.all_eq_true]
  intro m hm
  have := List.mem_range.1 hm
  by_cases h1 : m < 2
  · simp [h1]
  · simp [h m (by omega) (by omega)]
theorem spAll_false {xs : List Int} {m : Nat} (h1 : 2 ≤ m) (h2 : m ≤ xs.length) (h : spRow xs m = false) : spAll xs = false := by
  rw [spAll, List.all_eq_false]
  exact ⟨m, List.mem_range.2 (by omega), by simp [h, show ¬ m < 2 by omega]⟩

end Go.Proofs.Ytapjbppkekigaab
