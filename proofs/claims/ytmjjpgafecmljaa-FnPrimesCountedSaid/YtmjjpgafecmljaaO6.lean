import Derived.Test.YtmjjpgafecmljaaGH
import Derived.Test.YtmjjpgafecmljaaG8
import Derived.Test.YtmjjpgafecmljaaB0
namespace Go.Proofs.Ytmjjpgafecmljaa
open Go.RowKit
set_option linter.unusedVariables false
set_option linter.unusedSimpArgs false

/-- The first twelve primes. -/
def p12 : List Nat := [2, 3, 5, 7, 11, 13, 17, 19, 23, 29, 31, 37]
theorem pr9_p12 : pr9.take 12 = p12.map (fun n : Nat => (n : Int)) := by
  rw [← pr9_first (Nat.le_refl 12)]
  decide +kernel
theorem pr9_p {k : Nat} (h : k < 12) : (ivL pr9 k).toNat = p12.getD k 0 ∧ ivL pr9 k = (p12.getD k 0 : Int) := by
  have e : ivL pr9 k = ivL (pr9.take 12) k := by simp [ivL, List.getElem?_take, h]
  rw [e, pr9_p12]
  have : ivL (p12.map (fun n : Nat => (n : Int))) k = (p12.getD k 0 : Int) := by
    have hk : k < p12.length := h
    simp [ivL, hk]
  rw [this]
  exact ⟨by omega, rfl⟩
/-- Whether none of the first k primes divides m. -/
def copB (k m : Nat) : Bool := (p12.take k).all fun p => m % p != 0
/-- How many of 1, .., n. -/
def copN (k : Nat) : Nat → Nat
  | 0 => 0
  | n + 1 => copN k n + (bif copB k (n + 1) then 1 else 0)
theorem copB_succ {k : Nat} (h : k < 12) (m : Nat) : copB (k + 1) m = (copB k m && (m % p12.getD k 0 != 0)) := by
  have hk : k < p12.length := h
  rw [copB, List.take_succ_eq_append_getElem hk, List.all_append, copB, List.getD_eq_getElem?_getD, List.getElem?_eq_getElem hk]
  simp
theorem p12_cop {j k : Nat} (hj : j < k) (hk : k < 12) : Nat.Coprime (p12.getD j 0) (p12.getD k 0) := by
  have h : ((List.range 12).all fun k => (List.range k).all fun j => Nat.gcd (p12.getD j 0) (p12.getD k 0) == 1) = true := by decide +kernel
  have h1 := List.all_eq_true.1 h k (List.mem_range.2 hk)
  have h2 := List.all_eq_true.1 h1 j (List.mem_range.2 hj)
  exact beq_iff_eq.1 h2
/-- A number that p divides is free of the first k primes just when its part is. -/
theorem copB_part {k : Nat} (hk : k < 12) (x : Nat) : copB k (p12.getD k 0 * x) = copB k x := by
  rw [Bool.eq_iff_iff, copB, copB, List.all_eq_true, List.all_eq_true]
  have key : ∀ p ∈ p12.take k, (p12.getD k 0 * x % p != 0) = (x % p != 0) := by
    intro p hp
    obtain ⟨j, hj, e⟩ := List.mem_iff_getElem.1 hp
    rw [List.length_take] at hj
    have hj1 : j < k := by omega
    have hj2 : j < p12.length := Nat.lt_trans hj1 hk
    have e2 : p = p12.getD j 0 := by rw [← e, List.getElem_take, List.getD_eq_getElem?_getD, List.getElem?_eq_getElem hj2]; rfl
    have hc := p12_cop hj1 hk
    rw [← e2] at hc
    rw [Bool.eq_iff_iff, bne_iff_ne, bne_iff_ne, Ne, Ne, not_congr]
    constructor
    · intro h
      exact Nat.mod_eq_zero_of_dvd (hc.dvd_of_dvd_mul_left (Nat.dvd_of_mod_eq_zero h))
    · intro h
      exact Nat.mod_eq_zero_of_dvd (Nat.dvd_mul_left_of_dvd (Nat.dvd_of_mod_eq_zero h) _)
  exact ⟨fun h p hp => by rw [← key p hp]; exact h p hp, fun h p hp => by rw [key p hp]; exact h p hp⟩
theorem p12_pos {k : Nat} (hk : k < 12) : 2 ≤ p12.getD k 0 ∧ p12.getD k 0 ≤ 37 := by
  have h : ((List.range 12).all fun k => decide (2 ≤ p12.getD k 0 ∧ p12.getD k 0 ≤ 37)) = true := by decide +kernel
  exact of_decide_eq_true (List.all_eq_true.1 h k (List.mem_range.2 hk))
/-- The recursion counts. -/
theorem copN_step {k : Nat} (hk : k < 12) : ∀ n, copN (k + 1) n + copN k (n / p12.getD k 0) = copN k n
  | 0 => by rw [Nat.zero_div]; rfl
  | n + 1 => by
    have ih := copN_step hk n
    obtain ⟨h2, _⟩ := p12_pos hk
    have hs := copB_succ hk (n + 1)
    generalize hp : p12.getD k 0 = p at *
    by_cases hd : (n + 1) % p = 0
    · have hq : (n + 1) / p = n / p + 1 := by rw [Nat.succ_div_of_mod_eq_zero hd]
      have hx : n + 1 = p * (n / p + 1) := by have := Nat.div_add_mod (n + 1) p; rw [hd, hq] at this; omega
      have hc : copB k (n + 1) = copB k (n / p + 1) := by
        have := copB_part hk (n / p + 1)
        rw [hp, ← hx] at this
        exact this
      rw [hq, copN, copN, copN, hs, hc, hd]
      simp only [bne_self_eq_false, Bool.and_false, cond_false]
      omega
    · have hq : (n + 1) / p = n / p := by rw [Nat.succ_div_of_mod_ne_zero hd]
      have hb : ((n + 1) % p != 0) = true := bne_iff_ne.2 hd
      rw [hq, copN, copN, hs, hb, Bool.and_true]
      omega
theorem wF_cop : ∀ {k : Nat}, k ≤ 12 → ∀ n, wF k n = (copN k n : Int)
  | 0, _, n => by
    rw [wF]
    have : ∀ n, copN 0 n = n := fun n => by
      induction n with
      | zero => rfl
      | succ n ih => rw [copN, ih]; rfl
    rw [this]
  | k + 1, h, n => by
    have h1 := copN_step (show k < 12 by omega) n
    rw [wF, wF_cop (by omega), wF_cop (by omega), (pr9_p (show k < 12 by omega)).1]
    omega
/-- The rules of the first k primes leave what none of them divides. -/
theorem ruP {k : Nat} (hk : k ≤ 12) : ruL (pr9.take k) = (p12.take k).map fun n : Nat => ((n : Int), (0 : Int)) := by
  have e : pr9.take k = (pr9.take 12).take k := by rw [List.take_take, Nat.min_eq_left hk]
  rw [e, pr9_p12, ruL, ← List.map_take, List.map_map]
  rfl
theorem ruP_good {k : Nat} (hk : k ≤ 12) : goodL (ruL (pr9.take k)) = true := by
  rw [ruP hk]
  have h : ((List.range 13).all fun k => goodL ((p12.take k).map fun n : Nat => ((n : Int), (0 : Int)))) = true := by decide +kernel
  exact List.all_eq_true.1 h k (List.mem_range.2 (by omega))
theorem ruP_left {k : Nat} (hk : k ≤ 12) (m : Nat) : leftF (ruL (pr9.take k)) (m : Int) = copB k m := by
  rw [ruP hk, Bool.eq_iff_iff, leftF, decide_eq_true_eq, fIdx, List.findIdx_eq_length, copB, List.all_eq_true]
  constructor
  · intro h p hp
    have h2 := h ((p : Int), 0) (List.mem_map.2 ⟨p, hp, rfl⟩)
    rw [crossF_false] at h2
    rw [bne_iff_ne]
    intro e
    apply h2
    show (m : Int) % (p : Int) = 0
    rw [← Int.natCast_emod, e]
    rfl
  · intro h r hr
    obtain ⟨p, hp, rfl⟩ := List.mem_map.1 hr
    have h2 := h p hp
    rw [bne_iff_ne] at h2
    rw [crossF_false]
    intro e
    have e2 : (m : Int) % (p : Int) = 0 := e
    rw [← Int.natCast_emod] at e2
    omega
theorem upF_cop {k : Nat} (hk : k ≤ 12) : ∀ n, (upF (leftF (ruL (pr9.take k))) n).length = copN k n
  | 0 => rfl
  | n + 1 => by
    have ih := upF_cop hk n
    have h := ruP_left hk (n + 1)
    rw [Int.natCast_add] at h
    cases hc : copB k (n + 1) with
    | true => rw [upF_yes (by rw [← hc, ← h]; rfl), List.length_append, ih, copN, hc]; rfl
    | false => rw [upF_no (by rw [← hc, ← h]; rfl), ih, copN, hc]; rfl

/-- The next prime behind. -/
theorem nextP_is {p : Nat} (hp : primeB p = true) (h9 : p ≤ 1000003) : ∀ d m, m + d = p → (∀ q, m ≤ q → q < p → primeB q = false) → nextP m = p
  | 0, m, e, _ => by rw [show m = p by omega]; exact nextP_yes h9 hp
  | d + 1, m, e, h => by
    rw [(nextP_no (by omega) (h m (Nat.le_refl _) (by omega))).1]
    exact nextP_is hp h9 d (m + 1) (by omega) (fun q h1 h2 => h q (by omega) h2)

/-- Legendre: behind the root's primes only primes are left. -/
def p0 (c : Nat) : Nat := if c = 0 then 1 else p12.getD (c - 1) 0
def cOf (n : Nat) : Nat := (p12.filter fun p => decide (p * p ≤ n)).length
def piN (n : Nat) : Nat := (prB 2 n).length
theorem lg_tab : ((List.range 10).all fun c => (List.range 900).all fun i => !decide (p0 c + 1 + i < p12.getD c 0 * p12.getD c 0) || (copB c (p0 c + 1 + i) == primeB (p0 c + 1 + i))) = true := by decide +kernel
theorem lg_base : ((List.range 10).all fun c => copN c (p0 c) + c == piN (p0 c) + 1) = true := by decide +kernel
theorem lg_range : ((List.range 601).all fun n => decide (n = 0) || (decide (cOf n ≤ 9) && (decide (p0 (cOf n) ≤ n) && decide (n < p12.getD (cOf n) 0 * p12.getD (cOf n) 0)))) = true := by decide +kernel
theorem cr_cOf : ((List.range 601).all fun n => (flF (crB n) 2 23).length == cOf n) = true := by decide +kernel
theorem p0_pos (c : Nat) (h : c < 10) : 1 ≤ p0 c := by
  have h : ((List.range 10).all fun c => decide (1 ≤ p0 c)) = true := by decide +kernel
  exact of_decide_eq_true (List.all_eq_true.1 h c (List.mem_range.2 (by assumption)))
theorem piN_succ {n : Nat} (h : 1 ≤ n) : piN (n + 1) = piN n + (bif primeB (n + 1) then 1 else 0) := by
  rw [piN, piN, prB, prB, show n + 1 + 1 - 2 = (n + 1 - 2) + 1 by omega]
  have e : 2 + (n + 1 - 2) = n + 1 := by omega
  cases hp : primeB (n + 1) with
  | true => rw [flF_yes (by rw [e]; exact hp), List.length_append]; rfl
  | false => rw [flF_no (by rw [e]; exact hp)]; rfl
theorem lg_is {c : Nat} (hc : c < 10) : ∀ d, p0 c + d < p12.getD c 0 * p12.getD c 0 → copN c (p0 c + d) + c = piN (p0 c + d) + 1
  | 0, _ => beq_iff_eq.1 (List.all_eq_true.1 lg_base c (List.mem_range.2 hc))
  | d + 1, h => by
    have ih := lg_is hc d (by omega)
    have h1 := p0_pos c hc
    have hs : p12.getD c 0 * p12.getD c 0 ≤ 900 := by
      have h : ((List.range 10).all fun c => decide (p12.getD c 0 * p12.getD c 0 ≤ 900)) = true := by decide +kernel
      exact of_decide_eq_true (List.all_eq_true.1 h c (List.mem_range.2 hc))
    have ht := List.all_eq_true.1 (List.all_eq_true.1 lg_tab c (List.mem_range.2 hc)) d (List.mem_range.2 (by omega))
    rw [decide_eq_true (show p0 c + 1 + d < p12.getD c 0 * p12.getD c 0 by omega), Bool.not_true, Bool.false_or, beq_iff_eq] at ht
    rw [show p0 c + (d + 1) = (p0 c + d) + 1 by omega, copN, piN_succ (by omega)]
    rw [show p0 c + 1 + d = p0 c + d + 1 by omega] at ht
    rw [ht]
    omega
theorem legendre {n : Nat} (h1 : 1 ≤ n) (h9 : n ≤ 600) : (flF (crB n) 2 (n + 1 - 2)).length ≤ 9 ∧ copN (flF (crB n) 2 (n + 1 - 2)).length n + (flF (crB n) 2 (n + 1 - 2)).length = piN n + 1 := by
  have e : (flF (crB n) 2 (n + 1 - 2)).length = cOf n := by
    rw [← beq_iff_eq.1 (List.all_eq_true.1 cr_cOf n (List.mem_range.2 (by omega)))]
    rcases Nat.lt_or_ge (n + 1 - 2) 23 with h | h
    · rw [show (23 : Nat) = (n + 1 - 2) + (23 - (n + 1 - 2)) by omega, flF_cut fun m h1 h2 => ?_]
      rw [crB, decide_eq_false (by
        have : n * n ≤ m * m - 1 ∨ True := .inr trivial
        have := Nat.mul_le_mul (show n + 1 ≤ m by omega) (show 1 ≤ m by omega)
        omega), Bool.and_false]
    · rw [cr_end (m := n) (k := 23) (by omega) h]
  have hr := List.all_eq_true.1 lg_range n (List.mem_range.2 (by omega))
  simp only [Bool.or_eq_true, Bool.and_eq_true, decide_eq_true_eq] at hr
  rcases hr with hr | ⟨hr1, hr2, hr3⟩
  · omega
  · rw [e]
    have := lg_is (c := cOf n) (by omega) (n - p0 (cOf n)) (by omega)
    rw [show p0 (cOf n) + (n - p0 (cOf n)) = n by omega] at this
    exact ⟨hr1, this⟩

theorem flF_rise6 (p : Nat → Bool) (a : Nat) : ∀ k, (flF p a k).Pairwise (· < ·)
  | 0 => List.Pairwise.nil
  | k + 1 => by
    have ih := flF_rise6 p a k
    cases h : p (a + k) with
    | false => rw [flF_no h]; exact ih
    | true =>
      rw [flF_yes h, List.pairwise_append]
      refine ⟨ih, by simp, fun x hx y hy => ?_⟩
      obtain ⟨n, rfl, h1, h2, _⟩ := flF_mem.1 hx
      rw [List.mem_singleton] at hy
      omega
theorem iv_in {xs : List Int} {k : Nat} (hk : k < xs.length) : ivL xs k ∈ xs := by
  rw [ivL, List.getD_eq_getElem?_getD, List.getElem?_eq_getElem hk]; exact List.getElem_mem _
theorem iv_at {xs : List Int} {k : Nat} (hk : k < xs.length) : ivL xs k = xs[k] := by simp [ivL, hk]
theorem iv_lt {xs : List Int} (h : xs.Pairwise (· < ·)) {i j : Nat} (hij : i < j) (hj : j < xs.length) : ivL xs i < ivL xs j := by
  rw [iv_at (by omega), iv_at hj]
  exact List.pairwise_iff_getElem.1 h i j (by omega) hj hij
/-- Nothing lies between neighbours. -/
theorem fl_between {p : Nat → Bool} {a k i q : Nat} (hi : i + 1 < (flF p a k).length) (h1 : ivL (flF p a k) i < (q : Int)) (h2 : (q : Int) < ivL (flF p a k) (i + 1)) : p q = false := by
  rw [Bool.eq_false_iff]
  intro hp
  obtain ⟨m, e, a1, a2, _⟩ := flF_mem.1 (iv_in (show i < (flF p a k).length by omega))
  obtain ⟨m', e', b1, b2, _⟩ := flF_mem.1 (iv_in hi)
  have q1 : a ≤ q := by rw [e] at h1; omega
  have q2 : q < a + k := by rw [e'] at h2; omega
  obtain ⟨j, hj, ej⟩ := List.mem_iff_getElem.1 (flF_mem.2 ⟨q, rfl, q1, q2, hp⟩)
  rw [← iv_at hj] at ej
  have hr := flF_rise6 p a k
  rcases Nat.lt_trichotomy j i with h | h | h
  · have := iv_lt hr h (by omega); omega
  · rw [h] at ej; omega
  · rcases Nat.lt_or_ge j (i + 1) with h3 | h3
    · omega
    · rcases Nat.lt_or_eq_of_le h3 with h4 | h4
      · have := iv_lt hr h4 hj; omega
      · rw [← h4] at ej; omega
/-- How many there are up to the one of a rank. -/
theorem fl_rank {p : Nat → Bool} {a k r n : Nat} (hr : r < (flF p a k).length) (h : ivL (flF p a k) r = (n : Int)) : (flF p a (n + 1 - a)).length = r + 1 := by
  obtain ⟨m, e, h1, h2, h3⟩ := flF_mem.1 (iv_in hr)
  have hmn : m = n := by omega
  subst hmn
  have hs : flF p a k = flF p a (m + 1 - a) ++ flF p (a + (m + 1 - a)) (k - (m + 1 - a)) := by
    rw [← flF_add]; congr 1; omega
  have hu : flF p a (m + 1 - a) = flF p a (m - a) ++ [(m : Int)] := by
    rw [show m + 1 - a = (m - a) + 1 by omega, flF_yes (by rw [show a + (m - a) = m by omega]; exact h3), show a + (m - a) = m by omega]
  have hl : (flF p a (m + 1 - a)).length = (flF p a (m - a)).length + 1 := by rw [hu, List.length_append]; rfl
  have hj : (flF p a (m - a)).length < (flF p a k).length := by rw [hs, List.length_append, hl]; omega
  have hv : ivL (flF p a k) (flF p a (m - a)).length = (m : Int) := by
    rw [iv_at hj]
    simp [hs, hu]
  have hrs := flF_rise6 p a k
  rw [hl]
  rcases Nat.lt_trichotomy r (flF p a (m - a)).length with h4 | h4 | h4
  · have := iv_lt hrs h4 hj; omega
  · omega
  · have := iv_lt hrs h4 hr; omega

end Go.Proofs.Ytmjjpgafecmljaa
