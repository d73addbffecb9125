import Derived.Test.YtapjbppkekigaabJ0
import Derived.Test.YtapjbppkekigaabYA
import Derived.IntWalk
namespace Go.Proofs.Ytapjbppkekigaab
open Go.RowKit
set_option linter.unusedVariables false
set_option linter.unusedSimpArgs false

/- The part of the least prime. -/
def lsP (n : Nat) : Nat := leastF n ^ strK (leastF n) n
theorem coprime_or {N d : Nat} (hN : 2 ≤ N) : leastF N ∣ d ∨ Nat.Coprime (leastF N) d := by
  have h2 := leastF_ge hN
  have hg0 : 0 < Nat.gcd (leastF N) d := Nat.gcd_pos_of_pos_left _ (by omega)
  by_cases h1 : Nat.gcd (leastF N) d = 1
  · exact .inr h1
  · have hd := Nat.gcd_dvd_left (leastF N) d
    have h3 := leastF_min (n := N) (d := Nat.gcd (leastF N) d) (by omega) (by omega) (Nat.mod_eq_zero_of_dvd (Nat.dvd_trans hd (Nat.dvd_of_mod_eq_zero (leastF_dvd N))))
    have h4 := Nat.le_of_dvd (by omega) hd
    have h5 : Nat.gcd (leastF N) d = leastF N := by omega
    exact .inl (by rw [← h5]; exact Nat.gcd_dvd_right _ _)
theorem str_of {p : Nat} (hp : 2 ≤ p) {s : Nat} (hs : 1 ≤ s) (h : s % p ≠ 0) : ∀ k, strK p (p ^ k * s) = k ∧ strR p (p ^ k * s) = s
  | 0 => by rw [Nat.pow_zero, Nat.one_mul]; exact str_no hs h
  | k + 1 => by
    obtain ⟨a, b⟩ := str_of hp hs h k
    have e : p ^ (k + 1) * s = p * (p ^ k * s) := by rw [Nat.pow_succ, Nat.mul_comm (p ^ k) p, Nat.mul_assoc]
    have hpos : 1 ≤ p ^ k * s := Nat.mul_pos (Nat.pow_pos (by omega)) hs
    have hm : p ^ (k + 1) * s % p = 0 := by rw [e]; exact Nat.mul_mod_right _ _
    obtain ⟨c, d⟩ := str_yes hp (by rw [e]; exact Nat.mul_pos (by omega) hpos) hm
    rw [c, d, e, Nat.mul_div_cancel_left _ (by omega), a, b]
    exact ⟨rfl, rfl⟩
theorem lsP_facts {n : Nat} (hn : 2 ≤ n) : n = lsP n * strR (leastF n) n ∧ 2 ≤ lsP n ∧ 1 ≤ strR (leastF n) n ∧ n / lsP n = strR (leastF n) n ∧ n / lsP n < n ∧ Nat.gcd (lsP n) (n / lsP n) = 1 ∧ lsP n ≤ n := by
  have h2 := leastF_ge hn
  obtain ⟨a, b, c, d⟩ := str_facts h2 n (by omega)
  have hk := str_pos h2 (by omega) (leastF_dvd n)
  have hP : 2 ≤ lsP n := Nat.le_trans h2 (Nat.le_self_pow (by omega) _)
  have e : n / lsP n = strR (leastF n) n := by
    conv => lhs; lhs; rw [d]
    exact Nat.mul_div_cancel_left _ (show 0 < lsP n from Nat.lt_of_lt_of_le (by decide) hP)
  have hlt : strR (leastF n) n < n := str_lt h2 (by omega) (leastF_dvd n)
  refine ⟨d, hP, a, e, by rw [e]; exact hlt, ?_, ?_⟩
  · rw [e]
    rcases coprime_or (N := n) (d := strR (leastF n) n) hn with h | h
    · exact absurd (Nat.mod_eq_zero_of_dvd h) c
    · exact Nat.Coprime.pow_left _ h
  · exact Nat.le_of_dvd (show 0 < n from Nat.lt_of_lt_of_le (by decide) hn) ⟨_, d⟩
/-- The loop that finds the part. -/
theorem lsP_more {n j : Nat} (hn : 2 ≤ n) (h : j < strK (leastF n) n) : n / leastF n ^ j % leastF n = 0 := by
  have h2 := leastF_ge hn
  obtain ⟨a, b, c, d⟩ := str_facts h2 n (by omega)
  obtain ⟨i, hi⟩ : ∃ i, strK (leastF n) n = j + (i + 1) := ⟨strK (leastF n) n - j - 1, by omega⟩
  rw [hi, Nat.pow_add, Nat.mul_assoc] at d
  have e : n / leastF n ^ j = leastF n ^ (i + 1) * strR (leastF n) n := by
    conv => lhs; lhs; rw [d]
    exact Nat.mul_div_cancel_left _ (Nat.pow_pos (by omega))
  rw [e, Nat.pow_succ, Nat.mul_comm (leastF n ^ i), Nat.mul_assoc]
  exact Nat.mul_mod_right _ _
theorem lsP_stop {n : Nat} (hn : 2 ≤ n) : n / lsP n % leastF n ≠ 0 := by
  rw [(lsP_facts hn).2.2.2.1]
  exact (str_facts (leastF_ge hn) n (by omega)).2.2.1
/- The array of a table: 0 first. -/
def arI (xs : List Int) (i : Nat) : Int := if i = 0 then 0 else ivL xs (i - 1)
theorem arI_succ (xs : List Int) (i : Nat) : arI xs (i + 1) = ivL xs i := by rw [arI, if_neg (by omega)]; rfl
theorem arI_small {xs : List Int} (h : smallL xs) (i : Nat) : -1000000 ≤ arI xs i ∧ arI xs i ≤ 1000000 := by
  rw [arI]
  split
  · omega
  · exact h _
/-- The spread table of a table's numbers for powers of primes, sizes cut as the machine cuts them. -/
def spW (xs : List Int) : Nat → List Int
  | 0 => [0]
  | 1 => [0, 1]
  | n + 2 => spW xs (n + 1) ++ [IntKind.i64.wrap (arI xs (lsP (n + 2)) * ivL (spW xs (n + 1)) ((n + 2) / lsP (n + 2)))]
theorem spW_len (xs : List Int) : ∀ n, (spW xs n).length = n + 1
  | 0 => rfl
  | 1 => rfl
  | n + 2 => by rw [spW, List.length_append, spW_len xs (n + 1)]; rfl
theorem ivL_app {xs ys : List Int} {i : Nat} (h : i < xs.length) : ivL (xs ++ ys) i = ivL xs i := by
  rw [ivL, ivL, List.getD_eq_getElem?_getD, List.getD_eq_getElem?_getD, List.getElem?_append_left h]
theorem ivL_last {xs : List Int} {x : Int} {i : Nat} (h : i = xs.length) : ivL (xs ++ [x]) i = x := by subst h; simp [ivL]
theorem spW_past {xs : List Int} {i : Nat} : ∀ {n d : Nat}, i ≤ n → ivL (spW xs (n + d)) i = ivL (spW xs n) i
  | n, 0, _ => rfl
  | 0, 1, h => by
    have : i = 0 := by omega
    subst this; rfl
  | 0, d + 2, h => by
    have ih := spW_past (xs := xs) (n := 0) (d := d + 1) h
    rw [← ih]
    simp only [Nat.zero_add]
    rw [spW, ivL_app (by rw [spW_len]; omega)]
  | n + 1, d + 1, h => by
    have ih := spW_past (xs := xs) (n := n + 1) (d := d) h
    rw [← ih, show n + 1 + (d + 1) = (n + d) + 2 by omega, spW, show n + 1 + d = n + d + 1 by omega, ivL_app (by rw [spW_len]; omega)]
def spI (xs : List Int) (i : Nat) : Int := ivL (spW xs i) i
theorem spI_of {xs : List Int} {n i : Nat} (h : i ≤ n) : ivL (spW xs n) i = spI xs i := by
  have := spW_past (xs := xs) (i := i) (n := i) (d := n - i) (Nat.le_refl _)
  rw [show i + (n - i) = n by omega] at this
  exact this
theorem spI_zero (xs : List Int) : spI xs 0 = 0 := rfl
theorem spI_one (xs : List Int) : spI xs 1 = 1 := rfl
theorem spI_at {xs : List Int} {n : Nat} (hn : 2 ≤ n) : spI xs n = IntKind.i64.wrap (arI xs (lsP n) * spI xs (n / lsP n)) := by
  obtain ⟨k, rfl⟩ : ∃ k, n = k + 2 := ⟨n - 2, by omega⟩
  have h := (lsP_facts hn).2.2.2.2.1
  have h2 := spI_of (xs := xs) (show (k + 2) / lsP (k + 2) ≤ k + 1 by omega)
  rw [spI, spW, ivL_last (by rw [spW_len]), h2]
/-- Numbers of coprime products, out of parts. -/
theorem spread_mul {t : Nat → Int} {L : Nat} (h1 : t 1 = 1) (hrec : ∀ n, 2 ≤ n → n ≤ L → t n = t (lsP n) * t (n / lsP n)) :
    ∀ N m n, m * n ≤ N → 1 ≤ m → 1 ≤ n → m * n ≤ L → Nat.gcd m n = 1 → t (m * n) = t m * t n
  | 0, m, n, h, hm, hn, _, _ => by have := Nat.mul_pos hm hn; omega
  | N + 1, m, n, h, hm, hn, hL, hg => by
    have key : ∀ m n, m * n ≤ N + 1 → 2 ≤ m → 2 ≤ n → m * n ≤ L → Nat.gcd m n = 1 → leastF (m * n) ∣ m → t (m * n) = t m * t n := by
      intro m n h hm hn hL hg hd
      have hN : 2 ≤ m * n := by have := Nat.mul_le_mul hm hn; omega
      have hp2 := leastF_ge hN
      have hmn : m ≤ m * n := Nat.le_mul_of_pos_right m (by omega)
      have e1 : leastF m = leastF (m * n) := by
        have a := leastF_min (n := m * n) (d := leastF m) (by omega) (leastF_ge hm) (Nat.mod_eq_zero_of_dvd (Nat.dvd_trans (Nat.dvd_of_mod_eq_zero (leastF_dvd m)) (Nat.dvd_mul_right m n)))
        have b := leastF_min (n := m) (d := leastF (m * n)) (by omega) hp2 (Nat.mod_eq_zero_of_dvd hd)
        omega
      obtain ⟨a1, a2, a3, a4, a5, a6, a7⟩ := lsP_facts hm
      have hcn : Nat.Coprime (leastF (m * n)) n := by
        rcases coprime_or (N := m * n) (d := n) hN with h0 | h0
        · have h4 : leastF (m * n) ∣ Nat.gcd m n := Nat.dvd_gcd hd h0
          rw [hg] at h4
          have := Nat.le_of_dvd (by omega) h4
          omega
        · exact h0
      have hcr : Nat.Coprime (leastF (m * n)) (strR (leastF m) m) := by
        rcases coprime_or (N := m * n) (d := strR (leastF m) m) hN with h0 | h0
        · rw [← e1] at h0
          exact absurd (Nat.mod_eq_zero_of_dvd h0) (str_facts (leastF_ge hm) m (by omega)).2.2.1
        · exact h0
      have hc := Nat.Coprime.mul_right hcr hcn
      have hnd : strR (leastF m) m * n % leastF (m * n) ≠ 0 := by
        intro h0
        have h5 := Nat.dvd_of_mod_eq_zero h0
        have h6 : leastF (m * n) ∣ 1 := by
          have := Nat.dvd_gcd (Nat.dvd_refl _) h5
          rwa [hc] at this
        have := Nat.le_of_dvd (by omega) h6
        omega
      obtain ⟨r, hr⟩ : ∃ r, strR (leastF m) m = r := ⟨_, rfl⟩
      rw [hr] at a1 a3 a4 hnd
      have hrn : 1 ≤ r * n := Nat.mul_pos a3 (by omega)
      have emn : m * n = leastF (m * n) ^ strK (leastF m) m * (r * n) := by
        have : m = leastF m ^ strK (leastF m) m * r := a1
        rw [← e1, ← Nat.mul_assoc, ← this]
      obtain ⟨b1, b2⟩ := str_of hp2 hrn hnd (strK (leastF m) m)
      rw [← emn] at b1 b2
      have eP : lsP (m * n) = lsP m := by rw [lsP, b1, ← e1]; rfl
      have eD : m * n / lsP (m * n) = r * n := by rw [(lsP_facts hN).2.2.2.1]; exact b2
      have hrm : r < m := by omega
      have hlt : r * n < m * n := Nat.mul_lt_mul_of_pos_right hrm (by omega)
      have hgr : Nat.gcd r n = 1 := by
        have : r ∣ m := ⟨lsP m, by rw [Nat.mul_comm]; exact a1⟩
        exact Nat.Coprime.coprime_dvd_left this hg
      have ih := spread_mul h1 hrec N r n (by omega) a3 (by omega) (by omega) hgr
      rw [hrec (m * n) hN hL, eD, eP, ih, hrec m hm (by omega), a4, Int.mul_assoc]
    by_cases hm1 : m = 1
    · subst hm1; rw [Nat.one_mul, h1, Int.one_mul]
    · by_cases hn1 : n = 1
      · subst hn1; rw [Nat.mul_one, h1, Int.mul_one]
      · have hN : 2 ≤ m * n := by have := Nat.mul_le_mul (show 2 ≤ m by omega) (show 2 ≤ n by omega); omega
        rcases coprime_or (N := m * n) (d := m) hN with h0 | h0
        · exact key m n h (by omega) (by omega) hL hg h0
        · have hd : leastF (m * n) ∣ n := Nat.Coprime.dvd_of_dvd_mul_left h0 (Nat.dvd_of_mod_eq_zero (leastF_dvd (m * n)))
          rw [Nat.mul_comm m n] at h hL hd ⊢
          rw [Int.mul_comm (t m)]
          exact key n m h (by omega) (by omega) hL (by rw [Nat.gcd_comm]; exact hg) hd
theorem wrap_small {x : Int} (h : -1000000 ≤ x ∧ x ≤ 1000000) : IntKind.i64.wrap x = x := IntWalk.i64_in _ (by omega)
theorem wrap_mul {x y : Int} (hx : -1000000 ≤ x ∧ x ≤ 1000000) (hy : -1000000 ≤ y ∧ y ≤ 1000000) : IntKind.i64.wrap (x * y) = x * y := IntWalk.i64_in _ (by have := mul_small hx hy; omega)
theorem spAll_get {xs : List Int} (h : spAll xs = true) {m n : Nat} (hm : 2 ≤ m) (hn : 2 ≤ n) (hmn : m * n ≤ xs.length) (hg : Nat.gcd m n = 1) : ivL xs (m * n - 1) = ivL xs (m - 1) * ivL xs (n - 1) := by
  have a1 := Nat.le_mul_of_pos_right m (show 0 < n by omega)
  have a2 := Nat.le_mul_of_pos_left n (show 0 < m by omega)
  have h1 := List.all_eq_true.1 h m (List.mem_range.2 (by omega))
  rw [Bool.or_eq_true, decide_eq_true_eq] at h1
  have h2 := h1.resolve_left (by omega)
  have h3 := List.all_eq_true.1 h2 n (List.mem_range.2 (by omega))
  rw [Bool.or_eq_true, Bool.or_eq_true, decide_eq_true_eq, decide_eq_true_eq] at h3
  have h4 := h3.resolve_left (by omega)
  rw [spB, hg] at h4
  simpa using h4
theorem spread_iff {xs : List Int} (hs : smallL xs) (hl : 1 ≤ xs.length) : (∀ i, i ≤ xs.length → spI xs i = arI xs i) ↔ (decide (ivL xs 0 = 1) && spAll xs) = true := by
  rw [Bool.and_eq_true, decide_eq_true_eq]
  constructor
  · intro h
    have h1 : arI xs 1 = 1 := by rw [← h 1 hl]; rfl
    have hrec : ∀ n, 2 ≤ n → n ≤ xs.length → arI xs n = arI xs (lsP n) * arI xs (n / lsP n) := by
      intro n hn hnl
      have hq := (lsP_facts hn).2.2.2.2.1
      rw [← h n hnl, spI_at hn, h _ (by omega), wrap_mul (arI_small hs _) (arI_small hs _)]
    have hmul := spread_mul h1 hrec
    refine ⟨by rw [arI_succ xs 0] at h1; exact h1, ?_⟩
    refine spAll_true fun m hm hmL => spRow_true (by omega) fun n hn hmn => ?_
    rw [spB]
    by_cases hg : Nat.gcd m n = 1
    · have e := hmul (m * n) m n (Nat.le_refl _) (by omega) (by omega) hmn hg
      have hp : 1 ≤ m * n := Nat.mul_pos (by omega) (by omega)
      rw [arI, if_neg (by omega), arI, if_neg (by omega), arI, if_neg (by omega)] at e
      simp [e]
    · simp [hg]
  · rintro ⟨h1, h2⟩ i
    induction i using Nat.strongRecOn with
    | _ i ih =>
      intro hi
      match i, ih, hi with
      | 0, _, _ => rfl
      | 1, _, _ => rw [spI_one, arI_succ, h1]
      | k + 2, ih, hi =>
        have hn : 2 ≤ k + 2 := by omega
        obtain ⟨a1, a2, a3, a4, a5, a6, a7⟩ := lsP_facts hn
        rw [spI_at hn, ih _ a5 (by omega), wrap_mul (arI_small hs _) (arI_small hs _)]
        by_cases hq : (k + 2) / lsP (k + 2) = 1
        · have e : lsP (k + 2) = k + 2 := by rw [a4] at hq; rw [hq] at a1; omega
          rw [hq, e, arI_succ xs 0, h1, Int.mul_one]
        · have hq2 : 2 ≤ (k + 2) / lsP (k + 2) := by omega
          rw [← a4] at a1
          have e := spAll_get h2 a2 hq2 (by rw [← a1]; exact hi) a6
          rw [← a1] at e
          rw [arI, if_neg (by omega), arI, if_neg (by omega), arI, if_neg (by omega), e]
end Go.Proofs.Ytapjbppkekigaab
