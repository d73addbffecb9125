import Derived.Test.YtmjjpgafecmljaaG7
import Derived.Test.YtmjjpgafecmljaaG8
import Derived.Test.YtmjjpgafecmljaaGF
import Derived.Test.YtmjjpgafecmljaaO0
namespace Go.Proofs.Ytmjjpgafecmljaa
open Go.RowKit
set_option linter.unusedVariables false
set_option linter.unusedSimpArgs false

/-- Each even number from 4 to 10000 is a sum of two primes. -/
def gbB (n : Nat) : Bool := (List.range 180).any fun p => primeB p && (decide (2 * p ≤ n) && primeB (n - p))
theorem gold_all : ((List.range 4999).all fun i => gbB (2 * i + 4)) = true := by decide +kernel
theorem gold {n : Nat} (h4 : 4 ≤ n) (h9 : n ≤ 10000) (he : n % 2 = 0) : 0 < (flF (ptB n) 2 (n / 2 + 1 - 2)).length := by
  have h := List.all_eq_true.1 gold_all ((n - 4) / 2) (List.mem_range.2 (by omega))
  rw [show 2 * ((n - 4) / 2) + 4 = n by omega, gbB, List.any_eq_true] at h
  obtain ⟨p, _, hp⟩ := h
  rw [Bool.and_eq_true, Bool.and_eq_true, decide_eq_true_eq] at hp
  obtain ⟨h1, h2, h3⟩ := hp
  have h5 := primeB_two h1
  exact List.length_pos_of_mem (flF_mem.2 ⟨p, rfl, h5, by omega, by rw [ptB, h1, h3]; rfl⟩)
theorem prime_odd {p : Nat} (h : primeB p = true) (h2 : p ≠ 2) : p % 2 = 1 := by
  obtain ⟨a, b⟩ := primeB_iff.1 h
  rcases Nat.lt_or_ge p 4 with h4 | h4
  · have : p = 3 := by omega
    omega
  · have := b 2 (by omega) (by omega)
    omega
theorem pt_odd {n p : Nat} (ho : n % 2 = 1) (h : ptB n p = true) (hp : p ≤ n / 2) : p = 2 := by
  rw [ptB, Bool.and_eq_true] at h
  have h1 := primeB_two h.1
  have h2 := primeB_two h.2
  by_cases e : p = 2
  · exact e
  · have h3 := prime_odd h.1 e
    by_cases e2 : n - p = 2
    · omega
    · have := prime_odd h.2 e2
      omega
/-- An odd number is such a sum in one way at the most, with 2. -/
theorem pt_one {n : Nat} (h4 : 4 ≤ n) (ho : n % 2 = 1) : flF (ptB n) 2 (n / 2 + 1 - 2) = [] ∨ flF (ptB n) 2 (n / 2 + 1 - 2) = [2] := by
  rw [show n / 2 + 1 - 2 = 1 + (n / 2 - 2) by omega, flF_cut (p := ptB n) (a := 2) (j := 1) (k := n / 2 - 2) fun m h1 h2 => by
    rw [Bool.eq_false_iff]
    intro h
    have := pt_odd ho h (by omega)
    omega]
  cases h : ptB n 2 with
  | true => right; rw [flF_yes (p := ptB n) (a := 2) (k := 0) h]; rfl
  | false => left; rw [flF_no (p := ptB n) (a := 2) (k := 0) h]; rfl
/-- What the first pair tells. -/
theorem f2_tell {n : Nat} (h4 : 4 ≤ n) (h9 : n ≤ 10000) (hl : 0 < (flF (ptB n) 2 (n / 2 + 1 - 2)).length) :
    ∃ p : Nat, ivL (flF (ptB n) 2 (n / 2 + 1 - 2)) 0 = (p : Int) ∧ 2 ≤ p ∧ 2 * p ≤ n ∧ primeB p = true ∧ primeB (n - p) = true ∧ (n % 2 = 1 → p = 2 ∧ (flF (ptB n) 2 (n / 2 + 1 - 2)).length = 1) := by
  have hm : ivL (flF (ptB n) 2 (n / 2 + 1 - 2)) 0 ∈ flF (ptB n) 2 (n / 2 + 1 - 2) := by
    rw [ivL, List.getD_eq_getElem?_getD, List.getElem?_eq_getElem hl]; exact List.getElem_mem _
  obtain ⟨p, e, h1, h2, h3⟩ := flF_mem.1 hm
  have h3' := h3
  rw [ptB, Bool.and_eq_true] at h3
  refine ⟨p, e, h1, by omega, h3.1, h3.2, fun ho => ⟨pt_odd ho h3' (by omega), ?_⟩⟩
  rcases pt_one h4 ho with h | h
  · rw [h] at hl; simp at hl
  · rw [h]; rfl
theorem flF_rise (p : Nat → Bool) (a : Nat) : ∀ k, (flF p a k).Pairwise (· < ·)
  | 0 => List.Pairwise.nil
  | k + 1 => by
    have ih := flF_rise p a k
    cases h : p (a + k) with
    | false => rw [flF_no h]; exact ih
    | true =>
      rw [flF_yes h, List.pairwise_append]
      refine ⟨ih, by simp, fun x hx y hy => ?_⟩
      obtain ⟨n, rfl, h1, h2, _⟩ := flF_mem.1 hx
      rw [List.mem_singleton] at hy
      omega
theorem ivL_rise {xs : List Int} (h : xs.Pairwise (· < ·)) {k : Nat} (h0 : 0 < k) (hk : k < xs.length) : ivL xs (k - 1) < ivL xs k := by
  have := List.pairwise_iff_getElem.1 h (k - 1) k (by omega) hk (by omega)
  simpa [ivL, hk, show k - 1 < xs.length by omega] using this
theorem ivL_mem {xs : List Int} {k : Nat} (hk : k < xs.length) : ivL xs k ∈ xs := by
  rw [ivL, List.getD_eq_getElem?_getD, List.getElem?_eq_getElem hk]; exact List.getElem_mem _
theorem tw_six : ((List.range 601).all fun t => !twB t || (decide (t ≤ 3) || t % 6 == 5)) = true := by decide +kernel
/-- What a twin tells. -/
theorem tw_tell {m : Int} {k : Nat} (hk : k < (twA m).length) :
    ∃ t : Nat, ivL (twA m) k = (t : Int) ∧ (t : Int) ≤ m ∧ t ≤ 600 ∧ primeB t = true ∧ primeB (t + 2) = true ∧ (0 < k → ivL (twA m) (k - 1) < (t : Int)) ∧ (3 < t → t % 6 = 5) := by
  have hm := ivL_mem hk
  have hr : 0 < k → ivL (twA m) (k - 1) < ivL (twA m) k := fun h0 => ivL_rise (by rw [twA]; split; exact flF_rise _ _ _; exact List.Pairwise.nil) h0 hk
  cases ho : twOk m with
  | false => rw [twA_no ho] at hk; simp at hk
  | true =>
    obtain ⟨m0, m9⟩ := inB_true.1 ho
    obtain ⟨M, rfl⟩ := Int.eq_ofNat_of_zero_le m0
    rw [twA_yes ho] at hm
    obtain ⟨t, e, h1, h2, h3⟩ := flF_mem.1 hm
    rw [← twA_yes ho] at e
    have h6 := List.all_eq_true.1 tw_six t (List.mem_range.2 (by omega))
    rw [h3] at h6
    have h3' := h3
    rw [twB, Bool.and_eq_true] at h3'
    refine ⟨t, e, by omega, by omega, h3'.1, h3'.2, fun h0 => by rw [← e]; exact hr h0, fun h => ?_⟩
    simp at h6
    omega
/-- What a crosser tells. -/
theorem cr_tell {m : Int} {k : Nat} (hk : k < (crA m).length) : ∃ c : Nat, ivL (crA m) k = (c : Int) ∧ c ≤ 600 ∧ (c : Int) * (c : Int) ≤ m ∧ primeB c = true := by
  have hm := ivL_mem hk
  cases ho : crOk m with
  | false => rw [crA_no ho] at hk; simp at hk
  | true =>
    obtain ⟨m0, m9⟩ := inB_true.1 ho
    obtain ⟨M, rfl⟩ := Int.eq_ofNat_of_zero_le m0
    rw [crA_yes ho] at hm
    obtain ⟨c, e, h1, h2, h3⟩ := flF_mem.1 hm
    rw [← crA_yes ho] at e
    rw [crB, Bool.and_eq_true, decide_eq_true_eq] at h3
    exact ⟨c, e, by omega, by rw [← Int.natCast_mul]; omega, h3.1⟩
theorem isP_yes {n : Nat} (h9 : n ≤ 1000000000) : isPOk (n : Int) = true ∧ isPV (n : Int) = primeB n := by
  have : isPOk (n : Int) = true := inB_true.2 (by omega)
  exact ⟨this, by rw [isPV, this, Int.toNat_natCast]; rfl⟩

end Go.Proofs.Ytmjjpgafecmljaa
