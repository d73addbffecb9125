import Derived.Test.YtgkciiklgadgkaaG1
namespace Go.Proofs.Ytgkciiklgadgkaa
open Go.RowKit
set_option linter.unusedVariables false
set_option linter.unusedSimpArgs false

/-- How often p divides m, and what is left then. -/
def strF : Nat → Nat → Nat → Nat × Nat
  | 0, _, m => (0, m)
  | f + 1, p, m => if m % p = 0 then ((strF f p (m / p)).1 + 1, (strF f p (m / p)).2) else (0, m)
def strK (p m : Nat) : Nat := (strF m p m).1
def strR (p m : Nat) : Nat := (strF m p m).2
theorem div_lt_of {p m : Nat} (hp : 2 ≤ p) (hm : 1 ≤ m) : m / p < m := Nat.div_lt_self (by omega) (by omega)
theorem div_pos_of {p m : Nat} (hp : 2 ≤ p) (hm : 1 ≤ m) (h : m % p = 0) : 1 ≤ m / p := by
  have := Nat.div_add_mod m p
  rcases Nat.eq_zero_or_pos (m / p) with h0 | h0
  · rw [h0, h] at this; omega
  · exact h0
theorem strF_fuel {p : Nat} (hp : 2 ≤ p) : ∀ (f g m : Nat), 1 ≤ m → m ≤ f → m ≤ g → strF f p m = strF g p m
  | 0, g, m, h1, h2, _ => by omega
  | f + 1, 0, m, h1, _, h3 => by omega
  | f + 1, g + 1, m, h1, h2, h3 => by
    rw [strF, strF]
    by_cases h : m % p = 0
    · have := div_lt_of hp h1
      rw [if_pos h, if_pos h, strF_fuel hp f g (m / p) (div_pos_of hp h1 h) (by omega) (by omega)]
    · rw [if_neg h, if_neg h]
theorem str_yes {p m : Nat} (hp : 2 ≤ p) (hm : 1 ≤ m) (h : m % p = 0) : strK p m = strK p (m / p) + 1 ∧ strR p m = strR p (m / p) := by
  have h1 := div_lt_of hp hm
  have h2 := div_pos_of hp hm h
  have e : strF m p m = ((strF (m / p) p (m / p)).1 + 1, (strF (m / p) p (m / p)).2) := by
    obtain ⟨k, rfl⟩ : ∃ k, m = k + 1 := ⟨m - 1, by omega⟩
    rw [strF, if_pos h, strF_fuel hp k ((k + 1) / p) ((k + 1) / p) h2 (by omega) (Nat.le_refl _)]
  rw [strK, strR, e]
  exact ⟨rfl, rfl⟩
theorem str_no {p m : Nat} (hm : 1 ≤ m) (h : m % p ≠ 0) : strK p m = 0 ∧ strR p m = m := by
  obtain ⟨k, rfl⟩ : ∃ k, m = k + 1 := ⟨m - 1, by omega⟩
  rw [strK, strR, strF, if_neg h]
  exact ⟨rfl, rfl⟩
/-- What is left is at least 1, no multiple of p, and divides m; together with the p's it is m. -/
theorem str_facts {p : Nat} (hp : 2 ≤ p) : ∀ (m : Nat), 1 ≤ m → 1 ≤ strR p m ∧ strR p m ≤ m ∧ strR p m % p ≠ 0 ∧ m = p ^ strK p m * strR p m := by
  intro m
  induction m using Nat.strongRecOn with
  | ind m ih =>
    intro hm
    by_cases h : m % p = 0
    · obtain ⟨e1, e2⟩ := str_yes hp hm h
      have h1 := div_lt_of hp hm
      obtain ⟨a, b, c, d⟩ := ih (m / p) h1 (div_pos_of hp hm h)
      rw [e1, e2]
      refine ⟨a, by omega, c, ?_⟩
      have h3 : m = m / p * p := by have := Nat.div_add_mod m p; rw [h, Nat.mul_comm] at this; omega
      rw [Nat.pow_succ, Nat.mul_right_comm, ← d]
      exact h3
    · obtain ⟨e1, e2⟩ := str_no hm h
      rw [e1, e2]
      exact ⟨hm, Nat.le_refl _, h, by simp⟩
theorem str_pos {p m : Nat} (hp : 2 ≤ p) (hm : 1 ≤ m) (h : m % p = 0) : 1 ≤ strK p m := by rw [(str_yes hp hm h).1]; omega
theorem str_lt {p m : Nat} (hp : 2 ≤ p) (hm : 1 ≤ m) (h : m % p = 0) : strR p m < m := by
  rw [(str_yes hp hm h).2]
  have := (str_facts hp (m / p) (div_pos_of hp hm h)).2.1
  have := div_lt_of hp hm
  omega

/-- The factors: primes and their exponents. -/
def facG : Nat → Nat → List (Nat × Nat)
  | 0, _ => []
  | f + 1, n => if 2 ≤ n then (leastF n, strK (leastF n) n) :: facG f (strR (leastF n) n) else []
def facs (n : Nat) : List (Nat × Nat) := facG n n
theorem facG_fuel : ∀ (f g n : Nat), n ≤ f → n ≤ g → facG f n = facG g n
  | 0, 0, _, _, _ => rfl
  | 0, g + 1, n, h, _ => by rw [facG, facG, if_neg (by omega)]
  | f + 1, 0, n, _, h => by rw [facG, facG, if_neg (by omega)]
  | f + 1, g + 1, n, h1, h2 => by
    rw [facG, facG]
    by_cases h : 2 ≤ n
    · have := str_lt (leastF_ge h) (by omega) (leastF_dvd n)
      rw [if_pos h, if_pos h, facG_fuel f g _ (by omega) (by omega)]
    · rw [if_neg h, if_neg h]
theorem facs_yes {n : Nat} (h : 2 ≤ n) : facs n = (leastF n, strK (leastF n) n) :: facs (strR (leastF n) n) := by
  have := str_lt (leastF_ge h) (by omega) (leastF_dvd n)
  obtain ⟨k, rfl⟩ : ∃ k, n = k + 1 := ⟨n - 1, by omega⟩
  rw [facs, facG, if_pos h, facs, facG_fuel k (strR (leastF (k + 1)) (k + 1)) _ (by omega) (Nat.le_refl _)]
theorem facs_no {n : Nat} (h : ¬ 2 ≤ n) : facs n = [] := by
  cases n with
  | zero => rfl
  | succ k => rw [facs, facG, if_neg h]
/-- The prime factors, one behind the other. -/
def pfG : Nat → Nat → List Nat
  | 0, _ => []
  | f + 1, n => if 2 ≤ n then leastF n :: pfG f (n / leastF n) else []
def pf (n : Nat) : List Nat := pfG n n
theorem pfG_fuel : ∀ (f g n : Nat), n ≤ f → n ≤ g → pfG f n = pfG g n
  | 0, 0, _, _, _ => rfl
  | 0, g + 1, n, h, _ => by rw [pfG, pfG, if_neg (by omega)]
  | f + 1, 0, n, _, h => by rw [pfG, pfG, if_neg (by omega)]
  | f + 1, g + 1, n, h1, h2 => by
    rw [pfG, pfG]
    by_cases h : 2 ≤ n
    · have := div_lt_of (leastF_ge h) (by omega : 1 ≤ n)
      rw [if_pos h, if_pos h, pfG_fuel f g _ (by omega) (by omega)]
    · rw [if_neg h, if_neg h]
theorem pf_yes {n : Nat} (h : 2 ≤ n) : pf n = leastF n :: pf (n / leastF n) := by
  have := div_lt_of (leastF_ge h) (by omega : 1 ≤ n)
  obtain ⟨k, rfl⟩ : ∃ k, n = k + 1 := ⟨n - 1, by omega⟩
  rw [pf, pfG, if_pos h, pf, pfG_fuel k ((k + 1) / leastF (k + 1)) _ (by omega) (Nat.le_refl _)]
theorem pf_no {n : Nat} (h : ¬ 2 ≤ n) : pf n = [] := by
  cases n with
  | zero => rfl
  | succ k => rw [pf, pfG, if_neg h]
/-- A divisor of at least 2 is no less than the least one. -/
theorem leastF_min {n d : Nat} (hn : 1 ≤ n) (hd : 2 ≤ d) (h : n % d = 0) : leastF n ≤ d := by
  rcases leastF_cases n with ⟨a, b⟩ | ⟨a, b, c, e⟩
  · rcases Nat.lt_or_ge n (d * d) with h1 | h1
    · rw [a]
      rcases Nat.lt_or_ge d n with h2 | h2
      · exfalso
        have hq : n = d * (n / d) := by have := Nat.div_add_mod n d; rw [h] at this; omega
        have hq2 : n / d < d := Nat.div_lt_of_lt_mul h1
        have hq3 : 2 ≤ n / d := by
          rcases Nat.lt_or_ge (n / d) 2 with h3 | h3
          · have : n / d = 0 ∨ n / d = 1 := by generalize n / d = q at h3 ⊢; omega
            rcases this with h4 | h4
            · rw [h4] at hq; omega
            · rw [h4] at hq; omega
          · exact h3
        refine b (n / d) hq3 ?_ ?_
        · have := Nat.mul_le_mul_right (n / d) (Nat.le_of_lt hq2)
          omega
        · have h5 : n % (n / d) = (d * (n / d)) % (n / d) := by rw [← hq]
          rw [h5, Nat.mul_mod_left]
      · exact h2
    · exact absurd h (b d hd h1)
  · rcases Nat.lt_or_ge d (leastF n) with h1 | h1
    · exact absurd h (e d hd h1)
    · exact h1
theorem mod_of_mod {n m d : Nat} (h : n % m = 0) (h2 : m % d = 0) : n % d = 0 := by
  rw [← Nat.dvd_iff_mod_eq_zero] at *
  exact Nat.dvd_trans h2 h
theorem leastF_div {n : Nat} (hn : 2 ≤ n) (h : (n / leastF n) % leastF n = 0) (h2 : 2 ≤ n / leastF n) : leastF (n / leastF n) = leastF n := by
  have a := leastF_min (by omega) (leastF_ge hn) h
  have hm : n % (n / leastF n) = 0 := by
    have e : n = leastF n * (n / leastF n) := by have := Nat.div_add_mod n (leastF n); rw [leastF_dvd] at this; omega
    have h5 : n % (n / leastF n) = (leastF n * (n / leastF n)) % (n / leastF n) := by rw [← e]
    rw [h5, Nat.mul_mod_left]
  have b := leastF_min (n := n) (by omega) (leastF_ge h2) (mod_of_mod hm (leastF_dvd _))
  omega
/-- All of one prime first. -/
theorem pf_strip : ∀ (n : Nat), 2 ≤ n → pf n = List.replicate (strK (leastF n) n) (leastF n) ++ pf (strR (leastF n) n) := by
  intro n
  induction n using Nat.strongRecOn with
  | ind n ih =>
    intro hn
    have hp := leastF_ge hn
    have hd := leastF_dvd n
    obtain ⟨e1, e2⟩ := str_yes hp (by omega) hd
    have hlt := div_lt_of hp (by omega : 1 ≤ n)
    have hpos := div_pos_of hp (by omega) hd
    rw [pf_yes hn, e1, e2, List.replicate_succ, List.cons_append]
    congr 1
    by_cases h : (n / leastF n) % leastF n = 0
    · have h2 : 2 ≤ n / leastF n := by
        rcases Nat.lt_or_ge (n / leastF n) 2 with h3 | h3
        · have : n / leastF n = 1 := by omega
          rw [this, Nat.mod_eq_of_lt (by omega)] at h
          omega
        · exact h3
      have := ih (n / leastF n) hlt h2
      rw [leastF_div hn h h2] at this
      exact this
    · obtain ⟨e3, e4⟩ := str_no hpos h
      rw [e3, e4]
      rfl
/-- The keys of the factors. -/
def fks (n : Nat) : List Nat := (facs n).map Prod.fst
theorem pf_facs : ∀ (n : Nat), pf n = (facs n).flatMap fun x => List.replicate x.2 x.1 := by
  intro n
  induction n using Nat.strongRecOn with
  | ind n ih =>
    by_cases hn : 2 ≤ n
    · rw [pf_strip n hn, facs_yes hn, List.flatMap_cons, ih _ (str_lt (leastF_ge hn) (by omega) (leastF_dvd n))]
    · rw [pf_no hn, facs_no hn]; rfl
theorem facs_lt : ∀ (n : Nat), 1 ≤ n → ∀ x ∈ facs n, 2 ≤ x.1 ∧ 1 ≤ x.2 ∧ x.1 ≤ n ∧ n % x.1 = 0 ∧ x.2 ≤ n := by
  intro n
  induction n using Nat.strongRecOn with
  | ind n ih =>
    intro h1 x hx
    by_cases hn : 2 ≤ n
    · have hp := leastF_ge hn
      have hd := leastF_dvd n
      have hs := str_lt hp (by omega) hd
      obtain ⟨f1, f2, f3, f4⟩ := str_facts hp n (by omega)
      rw [facs_yes hn, List.mem_cons] at hx
      rcases hx with rfl | hx
      · refine ⟨hp, str_pos hp (by omega) hd, leastF_le n, hd, ?_⟩
        have h2 : strK (leastF n) n < 2 ^ strK (leastF n) n := Nat.lt_two_pow_self
        have h3 : 2 ^ strK (leastF n) n ≤ leastF n ^ strK (leastF n) n := Nat.pow_le_pow_left hp _
        have h4 := Nat.le_mul_of_pos_right (leastF n ^ strK (leastF n) n) (show 0 < strR (leastF n) n by omega)
        show strK (leastF n) n ≤ n
        omega
      · obtain ⟨a, b, c, d, e⟩ := ih _ hs f1 x hx
        refine ⟨a, b, by omega, mod_of_mod ?_ d, by omega⟩
        have h5 : n % strR (leastF n) n = (leastF n ^ strK (leastF n) n * strR (leastF n) n) % strR (leastF n) n := by rw [← f4]
        rw [h5, Nat.mul_mod_left]
    · rw [facs_no hn] at hx
      cases hx
theorem facs_inc : ∀ (n : Nat), (facs n).Pairwise fun x y => x.1 < y.1 := by
  intro n
  induction n using Nat.strongRecOn with
  | ind n ih =>
    by_cases hn : 2 ≤ n
    · have hp := leastF_ge hn
      have hd := leastF_dvd n
      obtain ⟨f1, f2, f3, f4⟩ := str_facts hp n (by omega)
      rw [facs_yes hn, List.pairwise_cons]
      refine ⟨fun y hy => ?_, ih _ (str_lt hp (by omega) hd)⟩
      obtain ⟨a, b, c, d, _⟩ := facs_lt _ f1 y hy
      have h6 : n % y.1 = 0 := by
        refine mod_of_mod ?_ d
        have h5 : n % strR (leastF n) n = (leastF n ^ strK (leastF n) n * strR (leastF n) n) % strR (leastF n) n := by rw [← f4]
        rw [h5, Nat.mul_mod_left]
      have h7 := leastF_min (by omega) a h6
      show leastF n < y.1
      rcases Nat.lt_or_eq_of_le h7 with h8 | h8
      · exact h8
      · rw [← h8] at d
        exact absurd d f3
    · rw [facs_no hn]
      exact List.Pairwise.nil
theorem fks_nodup (n : Nat) : (fks n).Nodup := by
  rw [fks, List.Nodup, List.pairwise_map]
  exact (facs_inc n).imp fun h e => by omega
theorem mem_pf {n x : Nat} (hn : 1 ≤ n) : x ∈ pf n ↔ x ∈ fks n := by
  rw [pf_facs, fks, List.mem_flatMap, List.mem_map]
  constructor
  · rintro ⟨y, hy, hx⟩
    exact ⟨y, hy, (List.eq_of_mem_replicate hx).symm⟩
  · rintro ⟨y, hy, rfl⟩
    refine ⟨y, hy, ?_⟩
    have := (facs_lt n hn y hy).2.1
    rw [List.mem_replicate]
    exact ⟨by omega, rfl⟩
theorem count_flat : ∀ (l : List (Nat × Nat)), (l.Pairwise fun x y => x.1 < y.1) → ∀ x ∈ l, (l.flatMap fun x => List.replicate x.2 x.1).count x.1 = x.2
  | [], _, x, h => by cases h
  | y :: l, hp, x, h => by
    rw [List.pairwise_cons] at hp
    rw [List.flatMap_cons, List.count_append, List.count_replicate]
    rcases List.mem_cons.1 h with rfl | h1
    · have : (l.flatMap fun x => List.replicate x.2 x.1).count x.1 = 0 := by
        rw [List.count_eq_zero, List.mem_flatMap]
        rintro ⟨z, hz, hm⟩
        have h2 := List.eq_of_mem_replicate hm
        have h3 := hp.1 z hz
        omega
      rw [this]
      simp
    · have h3 := hp.1 x h1
      rw [count_flat l hp.2 x h1]
      have : ¬ (y.1 == x.1) = true := by simp; omega
      rw [if_neg this]
      omega
theorem count_pf {n : Nat} {x : Nat × Nat} (h : x ∈ facs n) : (pf n).count x.1 = x.2 := by
  rw [pf_facs]
  exact count_flat _ (facs_inc n) x h
/-- The product of a list of numbers. -/
def prodL : List Nat → Nat
  | [] => 1
  | x :: l => x * prodL l
theorem prodL_erase {p : Nat} : ∀ {l : List Nat}, p ∈ l → prodL l = p * prodL (l.erase p)
  | [], h => by cases h
  | x :: l, h => by
    by_cases e : x = p
    · subst e
      rw [List.erase_cons_head, prodL]
    · rw [List.erase_cons_tail (by simpa using e), prodL, prodL]
      have h1 : p ∈ l := by rcases List.mem_cons.1 h with h2 | h2; exact absurd h2.symm e; exact h2
      rw [prodL_erase h1, Nat.mul_left_comm]
theorem prodL_snoc (p : Nat) : ∀ (l : List Nat), prodL (l ++ [p]) = prodL l * p
  | [] => by simp [prodL]
  | x :: l => by rw [List.cons_append, prodL, prodL, prodL_snoc p l, Nat.mul_assoc]
theorem prodL_pos : ∀ (l : List Nat), (∀ x ∈ l, 1 ≤ x) → 1 ≤ prodL l
  | [], _ => Nat.le_refl _
  | x :: l, h => by
    have := prodL_pos l fun y hy => h y (List.mem_cons_of_mem _ hy)
    have h2 := h x (List.mem_cons_self ..)
    exact Nat.mul_pos h2 this
theorem fks_pos {n : Nat} (hn : 1 ≤ n) : ∀ x ∈ fks n, 2 ≤ x ∧ x ≤ n := by
  intro x hx
  rw [fks, List.mem_map] at hx
  obtain ⟨y, hy, rfl⟩ := hx
  have := facs_lt n hn y hy
  exact ⟨this.1, this.2.2.1⟩
theorem rad_le : ∀ (n : Nat), 1 ≤ n → prodL (fks n) ≤ n := by
  intro n
  induction n using Nat.strongRecOn with
  | ind n ih =>
    intro h1
    by_cases hn : 2 ≤ n
    · have hp := leastF_ge hn
      have hd := leastF_dvd n
      obtain ⟨f1, f2, f3, f4⟩ := str_facts hp n (by omega)
      have hk := str_pos hp (by omega) hd
      have := ih _ (str_lt hp (by omega) hd) f1
      rw [fks, facs_yes hn, List.map_cons, prodL]
      have h3 : leastF n ≤ leastF n ^ strK (leastF n) n := by
        have := Nat.pow_le_pow_right (show 0 < leastF n by omega) hk
        rwa [Nat.pow_one] at this
      have h4 := Nat.mul_le_mul h3 this
      rw [← f4] at h4
      exact h4
    · rw [fks, facs_no hn]
      exact h1

end Go.Proofs.Ytgkciiklgadgkaa
