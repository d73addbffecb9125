import Derived.Test.YtgkciiklgadgkaaKQ
import Derived.Test.YtgkciiklgadgkaaS0
namespace Go.Proofs.Ytgkciiklgadgkaa
open Go.RowKit
set_option linter.unusedVariables false
set_option linter.unusedSimpArgs false

/-! Numbers of a kind that comes again after P, one behind the other: the j-th. -/
def nlF (p : Nat → Bool) (P : Nat) : List Nat := (List.range P).filter p
def uF (p : Nat → Bool) (P j : Nat) : Nat := (nlF p P).getD (j % (nlF p P).length) 0 + P * (j / (nlF p P).length)
theorem flF_nl (p : Nat → Bool) (P : Nat) : flF p 0 P = (nlF p P).map (fun n : Nat => (n : Int)) := by
  simp only [flF, nlF, Nat.zero_add]
theorem nl_mem {p : Nat → Bool} {P n : Nat} : n ∈ nlF p P ↔ n < P ∧ p n = true := by simp [nlF]
theorem nl_strict (p : Nat → Bool) (P : Nat) : (nlF p P).Pairwise (· < ·) := List.Pairwise.filter _ List.pairwise_lt_range
theorem nl_at {p : Nat → Bool} {P i : Nat} (h : i < (nlF p P).length) : (nlF p P).getD i 0 < P ∧ p ((nlF p P).getD i 0) = true := by
  rw [List.getD_eq_getElem?_getD, List.getElem?_eq_getElem h]
  exact nl_mem.1 (List.getElem_mem h)
theorem nl_lt {p : Nat → Bool} {P i j : Nat} (h : i < j) (hj : j < (nlF p P).length) : (nlF p P).getD i 0 < (nlF p P).getD j 0 := by
  have := List.pairwise_iff_getElem.1 (nl_strict p P) i j (by omega) hj h
  have hi : i < (nlF p P).length := by omega
  simp only [List.getD_eq_getElem?_getD, List.getElem?_eq_getElem hj, List.getElem?_eq_getElem hi, Option.getD_some]
  exact this
theorem mod_succ_lt {j m : Nat} (h : j % m + 1 < m) : (j + 1) % m = j % m + 1 ∧ (j + 1) / m = j / m := by
  have hm : 0 < m := by omega
  have e := Nat.div_add_mod j m
  constructor
  · rw [Nat.add_mod, Nat.mod_eq_of_lt (show 1 < m by omega), Nat.mod_eq_of_lt h]
  · rw [Nat.div_eq_of_lt_le]
    · rw [Nat.mul_comm]; omega
    · rw [Nat.succ_mul, Nat.mul_comm]; omega
theorem mod_succ_end {j m : Nat} (hm : 0 < m) (h : ¬ j % m + 1 < m) : (j + 1) % m = 0 ∧ (j + 1) / m = j / m + 1 := by
  have e := Nat.div_add_mod j m
  have h1 := Nat.mod_lt j hm
  have h2 : j + 1 = m * (j / m + 1) := by rw [Nat.mul_add]; omega
  constructor
  · rw [h2, Nat.mul_mod_right]
  · rw [h2, Nat.mul_div_cancel_left _ hm]
theorem uF_lt {p : Nat → Bool} {P : Nat} (hm : 0 < (nlF p P).length) (j : Nat) : uF p P j < uF p P (j + 1) := by
  have hj := Nat.mod_lt j hm
  unfold uF
  by_cases h : j % (nlF p P).length + 1 < (nlF p P).length
  · obtain ⟨h1, h2⟩ := mod_succ_lt h
    rw [h1, h2]
    have := nl_lt (p := p) (P := P) (show j % (nlF p P).length < j % (nlF p P).length + 1 by omega) h
    omega
  · obtain ⟨h1, h2⟩ := mod_succ_end hm h
    rw [h1, h2, Nat.mul_succ]
    have := nl_at hj
    omega
theorem uF_mono {p : Nat → Bool} {P : Nat} (hm : 0 < (nlF p P).length) (i : Nat) : ∀ d, uF p P i + d ≤ uF p P (i + d)
  | 0 => Nat.le_refl _
  | d + 1 => by have := uF_mono hm i d; have := uF_lt hm (i + d); rw [← Nat.add_assoc i]; omega
theorem uF_inj {p : Nat → Bool} {P : Nat} (hm : 0 < (nlF p P).length) {i j : Nat} (h : uF p P i < uF p P j) : i < j := by
  rcases Nat.lt_or_ge i j with h1 | h1
  · exact h1
  · have := uF_mono hm j (i - j)
    rw [show j + (i - j) = i by omega] at this
    omega
theorem per_mul {p : Nat → Bool} {P : Nat} (hper : ∀ n, p (n + P) = p n) (n : Nat) : ∀ k, p (n + P * k) = p n
  | 0 => rfl
  | k + 1 => by rw [Nat.mul_succ, ← Nat.add_assoc, hper, per_mul hper n k]
theorem uF_true {p : Nat → Bool} {P : Nat} (hper : ∀ n, p (n + P) = p n) (hm : 0 < (nlF p P).length) (j : Nat) : p (uF p P j) = true := by
  rw [uF, per_mul hper]
  exact (nl_at (Nat.mod_lt j hm)).2
theorem uF_onto {p : Nat → Bool} {P : Nat} (hP : 0 < P) (hper : ∀ n, p (n + P) = p n) {n : Nat} (h : p n = true) : 0 < (nlF p P).length ∧ ∃ j, uF p P j = n := by
  have e := Nat.mod_add_div n P
  have h1 : n % P ∈ nlF p P := nl_mem.2 ⟨Nat.mod_lt _ hP, by rw [← per_mul hper (n % P) (n / P), e]; exact h⟩
  obtain ⟨i, hi, hi2⟩ := List.getElem_of_mem h1
  refine ⟨by omega, i + (nlF p P).length * (n / P), ?_⟩
  rw [uF, Nat.add_mul_mod_self_left, Nat.mod_eq_of_lt hi, Nat.add_mul_div_left _ _ (by omega), Nat.div_eq_of_lt hi, List.getD_eq_getElem?_getD, List.getElem?_eq_getElem hi, Option.getD_some, hi2, Nat.zero_add]
  exact e
theorem uF_between {p : Nat → Bool} {P : Nat} (hP : 0 < P) (hper : ∀ n, p (n + P) = p n) {j n : Nat} (h1 : uF p P j < n) (h2 : n < uF p P (j + 1)) : p n = false := by
  cases h : p n with
  | false => rfl
  | true =>
    obtain ⟨hm, i, rfl⟩ := uF_onto hP hper h
    have a := uF_inj hm h1
    have b := uF_inj hm h2
    omega
theorem uF_below {p : Nat → Bool} {P : Nat} (hP : 0 < P) (hper : ∀ n, p (n + P) = p n) {n : Nat} (h : n < uF p P 0) : p n = false := by
  cases h2 : p n with
  | false => rfl
  | true =>
    obtain ⟨hm, i, rfl⟩ := uF_onto hP hper h2
    have a := uF_inj hm h
    omega
/-- How many numbers, one behind the other, are so, the last of them n. -/
def rbF (p : Nat → Bool) : Nat → Nat
  | 0 => if p 0 = true then 1 else 0
  | n + 1 => if p (n + 1) = true then rbF p n + 1 else 0
theorem rbF_no {p : Nat → Bool} {n : Nat} (h : p n = false) : rbF p n = 0 := by
  cases n <;> rw [rbF, if_neg (by rw [h]; decide)]
theorem rbF_yes {p : Nat → Bool} {n : Nat} (h : p (n + 1) = true) : rbF p (n + 1) = rbF p n + 1 := by rw [rbF, if_pos h]
theorem rbF_all {p : Nat → Bool} : ∀ n i, i < rbF p n → i ≤ n ∧ p (n - i) = true
  | 0, i, h => by
    rw [rbF] at h
    split at h
    · rename_i h1; exact ⟨by omega, by rw [Nat.zero_sub]; exact h1⟩
    · omega
  | n + 1, i, h => by
    rw [rbF] at h
    split at h
    · rename_i h1
      cases i with
      | zero => exact ⟨by omega, h1⟩
      | succ i =>
        have := rbF_all (p := p) n i (by omega)
        exact ⟨by omega, by rw [Nat.add_sub_add_right]; exact this.2⟩
    · omega
theorem rbF_run {p : Nat → Bool} {a : Nat} (ha : p a = false) : ∀ d, (∀ i, i < d → p (a + 1 + i) = true) → rbF p (a + d) = d
  | 0, _ => rbF_no ha
  | d + 1, h => by
    rw [← Nat.add_assoc, rbF_yes (by have := h d (by omega); rwa [Nat.add_right_comm] at this), rbF_run ha d fun i hi => h i (by omega)]
theorem rbF_u0 {p : Nat → Bool} {P : Nat} (hP : 0 < P) (hper : ∀ n, p (n + P) = p n) (hm : 0 < (nlF p P).length) : rbF p (uF p P 0) = 1 := by
  have h1 := uF_true hper hm 0
  have h2 := fun n => uF_below (p := p) (P := P) hP hper (n := n)
  generalize uF p P 0 = u at h1 h2
  cases u with
  | zero => rw [rbF, if_pos h1]
  | succ u => rw [rbF_yes h1, rbF_no (h2 u (by omega))]
theorem rbF_us {p : Nat → Bool} {P : Nat} (hP : 0 < P) (hper : ∀ n, p (n + P) = p n) (hm : 0 < (nlF p P).length) (j : Nat) :
    rbF p (uF p P (j + 1)) = if uF p P (j + 1) = uF p P j + 1 then rbF p (uF p P j) + 1 else 1 := by
  have h1 := uF_true hper hm (j + 1)
  have h2 := fun n => uF_between (p := p) (P := P) hP hper (n := n) (j := j)
  have h3 := uF_lt hm j
  generalize uF p P (j + 1) = v at h1 h2 h3
  split
  · rename_i e
    subst e
    exact rbF_yes h1
  · cases v with
    | zero => omega
    | succ v => rw [rbF_yes h1, rbF_no (h2 v (by omega) (by omega))]
/-- Gaps: the numbers of a period, and the first one of the next. -/
def cyL (p : Nat → Bool) (P : Nat) : List Int := flF p 0 P ++ [(P : Int) + ivL (flF p 0 P) 0]
theorem cyL_len (p : Nat → Bool) (P : Nat) : (cyL p P).length = (nlF p P).length + 1 := by simp [cyL, flF_nl]
theorem cyL_at {p : Nat → Bool} {P i : Nat} (hm : 0 < (nlF p P).length) (h : i ≤ (nlF p P).length) : ivL (cyL p P) i = (uF p P i : Int) := by
  have g : ∀ k, k < (nlF p P).length → ivL (flF p 0 P) k = ((nlF p P).getD k 0 : Int) := fun k hk => by
    rw [flF_nl, ivL, List.getD_eq_getElem?_getD, List.getElem?_map, List.getElem?_eq_getElem hk, List.getD_eq_getElem?_getD, List.getElem?_eq_getElem hk]; rfl
  have hl : (flF p 0 P).length = (nlF p P).length := by rw [flF_nl, List.length_map]
  rcases Nat.lt_or_eq_of_le h with h1 | h1
  · rw [uF, Nat.mod_eq_of_lt h1, Nat.div_eq_of_lt h1, Nat.mul_zero, Nat.add_zero, ← g i h1, cyL, ivL, List.getD_eq_getElem?_getD, List.getElem?_append_left (by omega), ivL, List.getD_eq_getElem?_getD]
  · rw [uF, h1, Nat.mod_self, Nat.div_self hm, Nat.mul_one, cyL, ivL, List.getD_eq_getElem?_getD, List.getElem?_append_right (by omega), hl, Nat.sub_self]
    show (P : Int) + ivL (flF p 0 P) 0 = _
    rw [g 0 hm]
    omega
/-- The gaps. -/
def cyG (p : Nat → Bool) (P : Nat) : List Int := dfL (cyL p P) (nlF p P).length
theorem cyG_len (p : Nat → Bool) (P : Nat) : (cyG p P).length = (nlF p P).length := dfL_len _ _
theorem cyG_at {p : Nat → Bool} {P : Nat} (hm : 0 < (nlF p P).length) (j : Nat) : ivL (cyG p P) (j % (nlF p P).length) = (uF p P (j + 1) : Int) - (uF p P j : Int) := by
  have hj := Nat.mod_lt j hm
  have e : ivL (cyG p P) (j % (nlF p P).length) = ivL (cyL p P) (j % (nlF p P).length + 1) - ivL (cyL p P) (j % (nlF p P).length) := by
    simp [cyG, dfL, ivL, hj]
  rw [e, cyL_at hm (by omega), cyL_at hm (by omega)]
  have hd := Nat.div_add_mod j (nlF p P).length
  have h0 : uF p P j = uF p P (j % (nlF p P).length) + P * (j / (nlF p P).length) := by
    unfold uF
    rw [Nat.mod_mod, Nat.div_eq_of_lt hj]; omega
  have h1 : uF p P (j + 1) = uF p P (j % (nlF p P).length + 1) + P * (j / (nlF p P).length) := by
    by_cases h : j % (nlF p P).length + 1 < (nlF p P).length
    · obtain ⟨a, b⟩ := mod_succ_lt h
      unfold uF
      rw [a, b, Nat.mod_eq_of_lt h, Nat.div_eq_of_lt h]; omega
    · obtain ⟨a, b⟩ := mod_succ_end hm h
      have : j % (nlF p P).length + 1 = (nlF p P).length := by omega
      unfold uF
      rw [a, b, this, Nat.mod_self, Nat.div_self hm, Nat.mul_succ]; omega
  omega
theorem cyG_pos {p : Nat → Bool} {P i : Nat} (h : i < (nlF p P).length) : 1 ≤ ivL (cyG p P) i := by
  have h1 := cyG_at (show 0 < (nlF p P).length by omega) i
  rw [Nat.mod_eq_of_lt h] at h1
  have := uF_lt (show 0 < (nlF p P).length by omega) i
  omega
/-- Runs of gaps of 1. -/
theorem rnL_rb {p : Nat → Bool} {P : Nat} (hP : 0 < P) (hper : ∀ n, p (n + P) = p n) (hm : 0 < (nlF p P).length) : ∀ k, (rnL (cyG p P) k).2 = rbF p (uF p P k) ∧
    (∀ j, j ≤ k → rbF p (uF p P j) ≤ (rnL (cyG p P) k).1) ∧ ∃ j, j ≤ k ∧ (rnL (cyG p P) k).1 = rbF p (uF p P j)
  | 0 => by
    have h := rbF_u0 hP hper hm
    refine ⟨h.symm, fun j hj => ?_, 0, Nat.le_refl _, h.symm⟩
    rw [show j = 0 by omega, h]
    exact Nat.le_refl _
  | k + 1 => by
    obtain ⟨h1, h2, j, hj, h3⟩ := rnL_rb hP hper hm k
    have h4 := rbF_us hP hper hm k
    have h5 := cyG_at hm k
    rw [rnL, cyG_len]
    have key : ∀ (M r : Nat), M = max (rnL (cyG p P) k).1 r → r = rbF p (uF p P (k + 1)) → (r = rbF p (uF p P (k + 1)) ∧ (∀ j, j ≤ k + 1 → rbF p (uF p P j) ≤ M) ∧ ∃ j, j ≤ k + 1 ∧ M = rbF p (uF p P j)) := by
      intro M r hM hr
      refine ⟨hr, fun i hi => ?_, ?_⟩
      · rcases Nat.lt_or_eq_of_le hi with h | h
        · have := h2 i (by omega); omega
        · subst h; omega
      · rcases Nat.le_total (rnL (cyG p P) k).1 r with h | h
        · exact ⟨k + 1, Nat.le_refl _, by omega⟩
        · exact ⟨j, by omega, by omega⟩
    by_cases h6 : ivL (cyG p P) (k % (nlF p P).length) = 1
    · rw [if_pos h6]
      exact key _ _ rfl (by rw [h4, if_pos (by omega), h1])
    · rw [if_neg h6]
      exact key _ _ rfl (by rw [h4, if_neg (by omega)])
/-- The greatest of some, from the first on. -/
def mxL (xs : List Int) : Nat → Int
  | 0 => ivL xs 0
  | k + 1 => max (mxL xs k) (ivL xs k)
theorem mxL_ge (xs : List Int) : ∀ {k i}, i < k → ivL xs i ≤ mxL xs k
  | k + 1, i, h => by
    rw [mxL]
    rcases Nat.lt_succ_iff_lt_or_eq.1 h with h | h
    · have := mxL_ge xs h; omega
    · subst h; omega
theorem mxL_at (xs : List Int) : ∀ {k}, 0 < k → ∃ i, i < k ∧ mxL xs k = ivL xs i
  | 1, _ => ⟨0, by omega, by simp [mxL]⟩
  | k + 2, _ => by
    obtain ⟨i, hi, h⟩ := mxL_at xs (k := k + 1) (by omega)
    rw [mxL]
    rcases Int.le_total (mxL xs (k + 1)) (ivL xs (k + 1)) with h1 | h1
    · exact ⟨k + 1, by omega, by omega⟩
    · exact ⟨i, by omega, by omega⟩
/-- The longest run that is so is the greatest gap of what is not so, less 1. -/
theorem run_is_gap {p q : Nat → Bool} {P : Nat} (hP : 0 < P) (hper : ∀ n, p (n + P) = p n) (hq : ∀ n, q n = !p n) (hm : 0 < (nlF p P).length) (hc : 0 < (nlF q P).length) :
    mxL (cyG q P) (nlF q P).length - 1 = ((rnL (cyG p P) (2 * (nlF p P).length)).1 : Int) := by
  have hpq : ∀ n, q (n + P) = q n := fun n => by rw [hq, hq, hper]
  obtain ⟨_, h2, j, hj, h3⟩ := rnL_rb hP hper hm (2 * (nlF p P).length)
  have hr1 : 1 ≤ (rnL (cyG p P) (2 * (nlF p P).length)).1 := by have := h2 0 (by omega); rw [rbF_u0 hP hper hm] at this; exact this
  apply Int.le_antisymm
  · obtain ⟨i, hi, e⟩ := mxL_at (cyG q P) hc
    have e2 := cyG_at hc i
    rw [Nat.mod_eq_of_lt hi] at e2
    have hlt := uF_lt hc i
    rw [e, e2]
    by_cases hd : uF q P (i + 1) = uF q P i + 1
    · omega
    · have hrun : rbF p (uF q P i + (uF q P (i + 1) - uF q P i - 1)) = uF q P (i + 1) - uF q P i - 1 := by
        apply rbF_run
        · have := uF_true hpq hc i
          rw [hq] at this
          simpa using this
        · intro d hd2
          have := uF_between hP hpq (j := i) (n := uF q P i + 1 + d) (by omega) (by omega)
          rw [hq] at this
          simpa using this
      have hn : p (uF q P i + (uF q P (i + 1) - uF q P i - 1)) = true := by
        have := uF_between hP hpq (j := i) (n := uF q P i + (uF q P (i + 1) - uF q P i - 1)) (by omega) (by omega)
        rw [hq] at this
        simpa using this
      obtain ⟨_, j2, hj2⟩ := uF_onto hP hper hn
      have hU : uF p P (2 * (nlF p P).length) = uF p P 0 + P * 2 := by
        unfold uF
        rw [Nat.mul_mod_left, Nat.mul_div_cancel _ hm, Nat.zero_mod, Nat.zero_div]; omega
      have hV : uF q P (i + 1) ≤ uF q P (nlF q P).length := by
        have := uF_mono hc (i + 1) ((nlF q P).length - (i + 1))
        rw [show i + 1 + ((nlF q P).length - (i + 1)) = (nlF q P).length by omega] at this
        omega
      have hV2 : uF q P (nlF q P).length < P + P := by
        unfold uF
        rw [Nat.mod_self, Nat.div_self hc]
        have := (nl_at hc).1
        omega
      have hj3 : j2 ≤ 2 * (nlF p P).length := by
        rcases Nat.lt_or_ge (2 * (nlF p P).length) j2 with h | h
        · have := uF_mono hm (2 * (nlF p P).length) (j2 - 2 * (nlF p P).length)
          rw [show 2 * (nlF p P).length + (j2 - 2 * (nlF p P).length) = j2 by omega] at this
          omega
        · exact h
      have := h2 j2 hj3
      rw [hj2, hrun] at this
      omega
  · rw [h3]
    have hall := rbF_all (p := p) (uF p P j)
    have hpos : 0 < rbF p (uF p P j) := by omega
    generalize hr : rbF p (uF p P j) = r at hall hpos
    generalize uF p P j = n at hall
    -- the greatest crossed one up to n + P
    have hex : ∀ N, uF q P 0 ≤ N → ∃ i, uF q P i ≤ N ∧ N < uF q P (i + 1) := by
      intro N
      induction N with
      | zero => intro h; exact ⟨0, h, by have := uF_lt hc 0; omega⟩
      | succ N ih =>
        intro h
        rcases Nat.lt_or_ge N (uF q P 0) with h1 | h1
        · exact ⟨0, h, by have := uF_lt hc 0; omega⟩
        · obtain ⟨i, a, b⟩ := ih h1
          rcases Nat.lt_or_ge (N + 1) (uF q P (i + 1)) with h4 | h4
          · exact ⟨i, by omega, h4⟩
          · exact ⟨i + 1, by omega, by have := uF_lt hc (i + 1); omega⟩
    have h0 : uF q P 0 < P := by
      unfold uF
      rw [Nat.zero_mod, Nat.zero_div]
      have := (nl_at hc).1
      omega
    obtain ⟨i, a, b⟩ := hex (n + P) (by omega)
    have hqi := uF_true hpq hc i
    have hge : uF q P i + r ≤ n + P := by
      rcases Nat.lt_or_ge (n + P) (uF q P i + r) with h | h
      · obtain ⟨c, d⟩ := hall (n + P - uF q P i) (by omega)
        have e : n - (n + P - uF q P i) + P = uF q P i := by omega
        rw [hq, ← e, hper, d] at hqi
        cases hqi
      · exact h
    have e2 := cyG_at hc i
    have e3 := mxL_ge (cyG q P) (Nat.mod_lt i hc)
    omega
/-! What a period has, and what the spec tells of it. -/
theorem lf_per {rs : List (Int × Int)} (h : perOk rs = true) (n : Nat) : lfQ rs (n + (perF rs).toNat) = lfQ rs n := by
  obtain ⟨hg, hz, h1, _⟩ := perOk_parts h
  have := left_add (per_dvd hg hz) (n : Int) 1
  unfold lfQ
  rw [← this]
  congr 1
  omega
def outQ (rs : List (Int × Int)) (n : Nat) : Bool := !lfQ rs n
theorem out_per {rs : List (Int × Int)} (h : perOk rs = true) (n : Nat) : outQ rs (n + (perF rs).toNat) = outQ rs n := by rw [outQ, lf_per h]; rfl
/-- The numbers of a period that are left (or not), and the first one of the next. -/
def nmL (rs : List (Int × Int)) (b : Bool) : List Int := flF (fun n => lfQ rs n == b) 0 (perF rs).toNat
def nmC (rs : List (Int × Int)) (b : Bool) : List Int := cyL (fun n => lfQ rs n == b) (perF rs).toNat
theorem nmQ_true (rs : List (Int × Int)) : (fun n => lfQ rs n == true) = lfQ rs := by funext n; simp
theorem nmQ_false (rs : List (Int × Int)) : (fun n => lfQ rs n == false) = outQ rs := by funext n; rw [outQ]; cases lfQ rs n <;> rfl
theorem nmL_left {rs : List (Int × Int)} (h : perOk rs = true) : nmL rs true = gpA rs := by rw [nmL, nmQ_true, gpA_ok h]
theorem gpA_nl {rs : List (Int × Int)} (h : perOk rs = true) : (gpA rs).length = (nlF (lfQ rs) (perF rs).toNat).length := by rw [gpA_ok h, flF_nl, List.length_map]
theorem nmC_left {rs : List (Int × Int)} (h : gpO rs = true) : dfL (nmC rs true) (gpA rs).length = gpGA rs := by
  obtain ⟨h1, h2⟩ := gpO_parts h
  obtain ⟨_, _, h3, _⟩ := perOk_parts h1
  have hm := gpA_nl h1
  rw [hm] at h2
  rw [nmC, nmQ_true, hm]
  apply List.ext_getElem
  · rw [dfL_len, gpGA_len, hm]
  · intro i hi1 hi2
    rw [dfL_len] at hi1
    have e1 := gpGA_at (rs := rs) (i := i) (by omega)
    have e2 : ivL (gpGA rs) i = (gpGA rs)[i] := by rw [ivL, List.getD_eq_getElem?_getD, List.getElem?_eq_getElem hi2]; rfl
    rw [← e2, e1, gpI, gpX]
    simp only [dfL, List.getElem_map, List.getElem_range]
    have hl : (flF (lfQ rs) 0 (perF rs).toNat).length = (nlF (lfQ rs) (perF rs).toNat).length := by rw [flF_nl, List.length_map]
    have c1 : ∀ k, k < (nlF (lfQ rs) (perF rs).toNat).length → ivL (cyL (lfQ rs) (perF rs).toNat) k = ivL (gpA rs) k := fun k hk => by
      rw [cyL, ivL, List.getD_eq_getElem?_getD, List.getElem?_append_left (by omega), ← gpA_ok h1, ivL, List.getD_eq_getElem?_getD]
    rw [c1 i hi1]
    by_cases h4 : i + 1 < (gpA rs).length
    · rw [if_pos h4, c1 (i + 1) (by omega)]
    · rw [if_neg h4, show i + 1 = (nlF (lfQ rs) (perF rs).toNat).length by omega, cyL, ivL, List.getD_eq_getElem?_getD, List.getElem?_append_right (by omega), hl, Nat.sub_self, ← gpA_ok h1]
      show (((perF rs).toNat : Nat) : Int) + _ - _ = _
      omega
theorem gpGA_cy {rs : List (Int × Int)} (h : gpO rs = true) : gpGA rs = cyG (lfQ rs) (perF rs).toNat := by
  rw [← nmC_left h, nmC, nmQ_true, gpA_nl (gpO_parts h).1]; rfl
theorem gpGA_pos {rs : List (Int × Int)} (h : gpO rs = true) {i : Nat} (hi : i < (gpA rs).length) : 1 ≤ ivL (gpGA rs) i := by
  rw [gpA_nl (gpO_parts h).1] at hi
  rw [gpGA_cy h]
  exact cyG_pos hi
/-- The longest run of numbers that are left. -/
def rlW (rs : List (Int × Int)) : Int := ((rnL (gpGA rs) (2 * (gpA rs).length)).1 : Int)
def outN (rs : List (Int × Int)) : Nat := (nmL rs false).length
theorem outN_nl (rs : List (Int × Int)) : outN rs = (nlF (outQ rs) (perF rs).toNat).length := by rw [outN, nmL, nmQ_false, flF_nl, List.length_map]
theorem outN_pos {rs : List (Int × Int)} (h : perOk rs = true) (hr : 0 < rs.length) : 0 < outN rs := by
  obtain ⟨hg, hz, h1, _⟩ := perOk_parts h
  obtain ⟨r, t, rfl⟩ := List.exists_cons_of_length_pos hr
  have hb := good_mem hg r (by simp)
  have hd := Int.le_of_dvd (by omega) (per_dvd hg hz r (by simp))
  have hm : r.2.toNat ∈ nlF (outQ (r :: t)) (perF (r :: t)).toNat := by
    rw [nl_mem]
    refine ⟨by omega, ?_⟩
    rw [outQ, lfQ, Bool.not_eq_true']
    cases hl : leftF (r :: t) (r.2.toNat : Int) with
    | false => rfl
    | true =>
      have := (left_iff _ _).1 hl r (by simp)
      rw [Int.toNat_of_nonneg hb.2.2.1, crossF, decide_eq_false_iff_not, restF, Int.emod_eq_of_lt hb.2.2.1 hb.2.2.2] at this
      exact absurd rfl this
  rw [outN_nl]
  exact List.length_pos_of_mem hm
theorem outN_none (h : perOk [] = true) (hl : ∀ n, leftF [] n = true) : outN [] = 0 := by
  rw [outN_nl, nlF, List.length_eq_zero_iff, List.filter_eq_nil_iff]
  intro n _
  rw [outQ, lfQ, hl]; decide
theorem runLeft_is {rs : List (Int × Int)} (h : gpO rs = true) (hc : 0 < outN rs) : mxL (dfL (nmC rs false) (outN rs)) (outN rs) - 1 = rlW rs := by
  obtain ⟨h1, h2⟩ := gpO_parts h
  obtain ⟨_, _, h3, _⟩ := perOk_parts h1
  rw [gpA_nl h1] at h2
  rw [outN_nl] at hc ⊢
  rw [nmC, nmQ_false, rlW, gpGA_cy h, gpA_nl h1]
  exact run_is_gap (p := lfQ rs) (q := outQ rs) (by omega) (lf_per h1) (fun n => rfl) h2 hc
/-- The longest run of numbers that are not left. -/
theorem mxO_is (xs : List Int) : ∀ {k}, 0 < k → (∀ i, i < k → 1 ≤ ivL xs i) → mxL xs k - 1 = mxO xs k
  | 1, _, h => by have := h 0 (by omega); simp only [mxL, mxO]; omega
  | k + 2, _, h => by
    have ih := mxO_is xs (k := k + 1) (by omega) fun i hi => h i (by omega)
    rw [mxL, mxO, ← ih]
    omega
/-! Records. -/
def recP (xs gs : List Int) : Nat → Int × List (Int × Int)
  | 0 => (0, [])
  | k + 1 => if (recP xs gs k).1 < ivL gs k then (ivL gs k, (recP xs gs k).2 ++ [(ivL xs k, ivL gs k)]) else recP xs gs k
theorem recP_yes {xs gs : List Int} {k : Nat} (h : (recP xs gs k).1 < ivL gs k) : recP xs gs (k + 1) = (ivL gs k, (recP xs gs k).2 ++ [(ivL xs k, ivL gs k)]) := by rw [recP, if_pos h]
theorem recP_no {xs gs : List Int} {k : Nat} (h : ¬ (recP xs gs k).1 < ivL gs k) : recP xs gs (k + 1) = recP xs gs k := by rw [recP, if_neg h]
theorem recP_len (xs gs : List Int) : ∀ k, (recP xs gs k).2.length ≤ k
  | 0 => Nat.le_refl _
  | k + 1 => by
    have := recP_len xs gs k
    rw [recP]
    split
    · simp; omega
    · omega
def pr2 (p : Int × Int) : List Int := [p.1, p.2]
theorem recP_rcG (xs gs : List Int) : ∀ k, (∀ i, i < k → ivL gs i = ivL xs (i + 1) - ivL xs i) → rcG xs k = ((recP xs gs k).1, (recP xs gs k).2.map pr2)
  | 0, _ => rfl
  | k + 1, h => by
    have ih := recP_rcG xs gs k fun i hi => h i (by omega)
    rw [recP, rcG, ih, ← h k (by omega)]
    dsimp only
    by_cases h1 : (recP xs gs k).1 < ivL gs k
    · rw [if_pos h1, if_pos h1]; simp [pr2]
    · rw [if_neg h1, if_neg h1]
theorem recP_best {xs gs : List Int} : ∀ {k}, (∀ i, i < k + 1 → 1 ≤ ivL gs i) → (recP xs gs (k + 1)).1 = ivL gs (bgI gs (k + 1)) ∧ ∃ l, (recP xs gs (k + 1)).2 = l ++ [(ivL xs (bgI gs (k + 1)), ivL gs (bgI gs (k + 1)))]
  | 0, h => by
    have h0 := h 0 (by omega)
    have e : bgI gs 1 = 0 := by rw [bgI]; split <;> rfl
    rw [e, recP, if_pos (by show (0 : Int) < _; omega)]
    exact ⟨rfl, [], rfl⟩
  | k + 1, h => by
    obtain ⟨h1, l, h2⟩ := recP_best (xs := xs) (gs := gs) (k := k) fun i hi => h i (by omega)
    rw [recP, bgI, h1]
    by_cases h3 : ivL gs (bgI gs (k + 1)) < ivL gs (k + 1)
    · rw [if_pos h3, if_pos h3]
      exact ⟨rfl, _, rfl⟩
    · rw [if_neg h3, if_neg h3]
      exact ⟨h1, l, h2⟩
theorem bgI_lt (xs : List Int) : ∀ {k}, 0 < k → bgI xs k < k
  | 1, _ => by rw [bgI]; split <;> simp [bgI]
  | k + 2, _ => by
    have := bgI_lt xs (k := k + 1) (by omega)
    rw [bgI]; split <;> omega

end Go.Proofs.Ytgkciiklgadgkaa
