import Derived.Test.YtehppjdiegoeeaaOD
import Derived.Test.YtehppjdiegoeeaaU4
import Derived.Test.YtehppjdiegoeeaaU3
import Derived.Test.YtehppjdiegoeeaaZ0
namespace Go.Proofs.Ytehppjdiegoeeaa
open Go.RowKit
set_option maxRecDepth 100000
set_option linter.unusedVariables false
set_option linter.unusedSimpArgs false

/-! What FnSquareFree asks: sums over numbers. -/
def qs : Nat → (Nat → Int) → Int
  | 0, _ => 0
  | k + 1, f => qs k f + f (k + 1)
theorem qs_congr {f g : Nat → Int} : ∀ {N}, (∀ i, 1 ≤ i → i ≤ N → f i = g i) → qs N f = qs N g
  | 0, _ => rfl
  | N + 1, h => by rw [qs, qs, qs_congr fun i h1 h2 => h i h1 (by omega), h (N + 1) (by omega) (by omega)]
theorem qs_none {f : Nat → Int} : ∀ {N}, (∀ i, 1 ≤ i → i ≤ N → f i = 0) → qs N f = 0
  | 0, _ => rfl
  | N + 1, h => by rw [qs, qs_none fun i h1 h2 => h i h1 (by omega), h (N + 1) (by omega) (by omega)]; rfl
theorem qs_add (f g : Nat → Int) : ∀ N, qs N (fun i => f i + g i) = qs N f + qs N g
  | 0 => rfl
  | N + 1 => by rw [qs, qs, qs, qs_add f g N]; omega
theorem qs_mul (c : Int) (f : Nat → Int) : ∀ N, qs N (fun i => c * f i) = c * qs N f
  | 0 => by rw [qs, qs, Int.mul_zero]
  | N + 1 => by rw [qs, qs, qs_mul c f N, Int.mul_add]
theorem qs_swap (M : Nat) (F : Nat → Nat → Int) : ∀ N, qs M (fun i => qs N (fun j => F i j)) = qs N (fun j => qs M (fun i => F i j))
  | 0 => qs_none fun _ _ _ => rfl
  | N + 1 => by
    rw [qs, ← qs_swap M F N, ← qs_add]
    rfl
theorem qs_long {f : Nat → Int} {N : Nat} : ∀ {M}, N ≤ M → (∀ i, N < i → f i = 0) → qs M f = qs N f
  | 0, h, _ => by rw [show N = 0 by omega]
  | M + 1, h, h0 => by
    by_cases hk : N = M + 1
    · rw [hk]
    · rw [qs, qs_long (by omega) h0, h0 (M + 1) (by omega), Int.add_zero]
/-- How many of 1, .., n are multiples of k. -/
theorem qs_count {k : Nat} (hk : 1 ≤ k) : ∀ n, qs n (fun m => if m % k = 0 then 1 else 0) = ((n / k : Nat) : Int)
  | 0 => by rw [qs, Nat.zero_div]; rfl
  | n + 1 => by
    rw [qs, qs_count hk n, Nat.succ_div]
    by_cases h : (n + 1) % k = 0
    · rw [if_pos h, if_pos (Nat.dvd_of_mod_eq_zero h)]; omega
    · rw [if_neg h, if_neg (fun hd => h (Nat.mod_eq_zero_of_dvd hd))]; omega
theorem sq_one_t : ((List.range 320).all fun i => decide (qs (i + 1) (fun d => if (i + 1) % d = 0 then sgF d else 0) = if i + 1 = 1 then 1 else 0)) = true := by decide +kernel
/-- The signs of the divisors, together. -/
theorem sq_one {q : Nat} (h1 : 1 ≤ q) (h9 : q ≤ 320) : qs q (fun d => if q % d = 0 then sgF d else 0) = if q = 1 then 1 else 0 := by
  have := List.all_eq_true.1 sq_one_t (q - 1) (List.mem_range.2 (by omega))
  rw [show q - 1 + 1 = q by omega] at this
  exact of_decide_eq_true this
theorem sq_dvd_iff {m d : Nat} (hm : 1 ≤ m) (hd : 1 ≤ d) : m % (d * d) = 0 ↔ sqG m % d = 0 := by
  obtain ⟨h1, h2⟩ := sqG_dvd hm
  have hge : ∀ a, a * a ∣ m → a ≤ sqG m := fun a ha => sqG_ge hm ha
  obtain ⟨Q, hQ⟩ : ∃ q, sqG m = q := ⟨_, rfl⟩
  rw [hQ] at h1 h2 hge ⊢
  clear hQ
  constructor
  · intro h
    obtain ⟨s, hs⟩ := h1
    have hfree : sqFree s := by
      intro a ha hda
      have hb : (Q * a) * (Q * a) ∣ m := by
        rw [hs, Nat.mul_mul_mul_comm]
        exact Nat.mul_dvd_mul_left _ hda
      have := hge _ hb
      have := Nat.mul_le_mul_left Q ha
      omega
    have hdd : d * d ∣ Q * Q * s := by rw [← hs]; exact Nat.dvd_of_mod_eq_zero h
    exact Nat.mod_eq_zero_of_dvd (sq_dvd h2 hfree hdd)
  · intro h
    exact Nat.mod_eq_zero_of_dvd (Nat.dvd_trans (Nat.mul_dvd_mul (Nat.dvd_of_mod_eq_zero h) (Nat.dvd_of_mod_eq_zero h)) h1)
theorem sq_lt' {d b n : Nat} (h : d * d ≤ n) (hn : n < b * b) : d < b := by
  rcases Nat.lt_or_ge d b with h1 | h1
  · exact h1
  · have := Nat.mul_le_mul h1 h1; omega
theorem sqG_small {m : Nat} (hm : 1 ≤ m) (h9 : m ≤ 100003) : sqG m ≤ 320 := by
  have h := Nat.le_of_dvd (by omega) (sqG_dvd hm).1
  have := sq_lt' (b := 321) (Nat.le_trans h h9) (by omega)
  omega
/-- Whether a number is square-free, by signs. -/
theorem sf_signs {m R : Nat} (hm : 1 ≤ m) (h9 : m ≤ 100003) (hR : sqG m ≤ R) : qs R (fun d => if m % (d * d) = 0 then sgF d else 0) = if sfB m = true then 1 else 0 := by
  have hg := (sqG_dvd hm).2
  have e : qs R (fun d => if m % (d * d) = 0 then sgF d else 0) = qs R (fun d => if sqG m % d = 0 then sgF d else 0) := qs_congr fun d d1 _ => by
    by_cases h : sqG m % d = 0
    · rw [if_pos h, if_pos ((sq_dvd_iff hm d1).2 h)]
    · rw [if_neg h, if_neg fun hh => h ((sq_dvd_iff hm d1).1 hh)]
  rw [e, qs_long hR fun i hi => by rw [if_neg (by rw [Nat.mod_eq_of_lt hi]; omega)], sq_one hg (sqG_small hm h9)]
  rw [sfB]
  by_cases h : sqG m = 1
  · rw [if_pos h, if_pos (beq_iff_eq.2 h)]
  · rw [if_neg h, if_neg (by rw [beq_iff_eq]; exact h)]
theorem csS_qs (n : Nat) : ∀ k, csS n k = qs k (fun d => sgF d * ((n / (d * d) : Nat) : Int))
  | 0 => rfl
  | k + 1 => by rw [csS, qs, csS_qs n k]
theorem flF_qs (p : Nat → Bool) : ∀ n, ((flF p 1 n).length : Int) = qs n (fun m => if p m = true then 1 else 0)
  | 0 => rfl
  | n + 1 => by
    cases h : p (1 + n) with
    | true =>
      rw [flF_yes h, List.length_append, List.length_singleton, qs, ← flF_qs p n]
      rw [show n + 1 = 1 + n by omega, h]
      simp
    | false =>
      rw [flF_no h, qs, ← flF_qs p n]
      rw [show n + 1 = 1 + n by omega, h]
      simp
/-- Square-free numbers are counted by signs. -/
theorem sf_count {n : Nat} (h9 : n ≤ 100003) : csS n (rtF n) = ((flF sfB 1 n).length : Int) := by
  rw [csS_qs, flF_qs]
  have h1 : qs (rtF n) (fun d => sgF d * ((n / (d * d) : Nat) : Int)) = qs (rtF n) (fun d => qs n (fun m => if m % (d * d) = 0 then sgF d else 0)) := qs_congr fun d d1 _ => by
    rw [← qs_count (Nat.mul_pos d1 d1) n, ← qs_mul]
    exact qs_congr fun m _ _ => by
      by_cases h : m % (d * d) = 0
      · rw [if_pos h, if_pos h, Int.mul_one]
      · rw [if_neg h, if_neg h, Int.mul_zero]
  rw [h1, qs_swap]
  refine qs_congr fun m m1 m2 => ?_
  refine sf_signs m1 (by omega) ?_
  have h2 := Nat.le_of_dvd (by omega) (sqG_dvd m1).1
  have h3 := (rtF_parts n).2
  have := sq_lt' (d := sqG m) (b := rtF n + 1) (n := n) (by omega) h3
  omega
/-- From a number to the next one there is one more. -/
theorem sf_next {n : Nat} (h9 : n + 1 ≤ 100003) : n < nsF (n + 1) ∧ nsF (n + 1) ≤ 100003 ∧ sfB (nsF (n + 1)) = true ∧ (flF sfB 1 (nsF (n + 1))).length = (flF sfB 1 n).length + 1 := by
  obtain ⟨a, b⟩ := nsF_is h9
  obtain ⟨c, d⟩ := nsF_le h9
  refine ⟨by omega, d, a, ?_⟩
  obtain ⟨k, hk⟩ : ∃ k, nsF (n + 1) = (n + k) + 1 := ⟨nsF (n + 1) - n - 1, by omega⟩
  rw [hk] at a b ⊢
  rw [flF_yes (show sfB (1 + (n + k)) = true by rw [show 1 + (n + k) = n + k + 1 by omega]; exact a), List.length_append, List.length_singleton]
  rw [flF_cut (p := sfB) (a := 1) (j := n) (k := k) fun m h1 h2 => b m (by omega) (by omega)]
/-- Without its square part a number is square-free. -/
theorem sf_rest {n : Nat} (hn : 1 ≤ n) : n % (sqG n * sqG n) = 0 ∧ 1 ≤ n / (sqG n * sqG n) ∧ n / (sqG n * sqG n) ≤ n ∧ sfB (n / (sqG n * sqG n)) = true ∧ 1 ≤ sqG n := by
  obtain ⟨⟨s, hs⟩, h2⟩ := sqG_dvd hn
  have hge : ∀ a, a * a ∣ n → a ≤ sqG n := fun a ha => sqG_ge hn ha
  obtain ⟨Q, hQ⟩ : ∃ q, sqG n = q := ⟨_, rfl⟩
  rw [hQ] at hs h2 hge ⊢
  clear hQ
  have hp : 1 ≤ Q * Q := Nat.mul_pos h2 h2
  have hd : n / (Q * Q) = s := by
    rw [hs]
    exact Nat.mul_div_cancel_left _ hp
  have hs1 : 1 ≤ s := by
    rcases Nat.eq_zero_or_pos s with h | h
    · rw [h, Nat.mul_zero] at hs; omega
    · exact h
  refine ⟨by rw [hs]; exact Nat.mul_mod_right _ _, by omega, Nat.div_le_self _ _, ?_, h2⟩
  rw [hd, sfB_iff hs1]
  intro a ha hda
  have hb : (Q * a) * (Q * a) ∣ n := by
    rw [hs, Nat.mul_mul_mul_comm]
    exact Nat.mul_dvd_mul_left _ hda
  have := hge _ hb
  have := Nat.mul_le_mul_left Q ha
  omega
theorem sf_kernel {n : Nat} (hn : 1 ≤ n) : (sfB n = true ↔ prodL (fks n) = n) := by
  rw [sf_sign hn, sgF]
  by_cases h : prodL (fks n) = n
  · simp only [h, if_true]
    split <;> simp
  · simp [h]
/-- Factors of a number: the primes that divide it. -/
theorem mem_fks {n q : Nat} (hn : 1 ≤ n) : q ∈ fks n ↔ primeB q = true ∧ n % q = 0 := by
  rw [fks, List.mem_map]
  constructor
  · rintro ⟨x, hx, rfl⟩
    exact ⟨facs_pr n x hx, (facs_lt n hn x hx).2.2.2.1⟩
  · rintro ⟨hq, hd⟩
    have hd2 := Nat.dvd_of_mod_eq_zero hd
    rw [← facs_prod n hn] at hd2
    exact pr_prodP hq (facs n) (facs_pr n) hd2
theorem prodL_perm {l l' : List Nat} (h : l.Perm l') : prodL l = prodL l' := by
  induction h with
  | nil => rfl
  | cons x _ ih => rw [prodL, prodL, ih]
  | swap x y l => rw [prodL, prodL, prodL, prodL, ← Nat.mul_assoc, ← Nat.mul_assoc, Nat.mul_comm y x]
  | trans _ _ ih1 ih2 => rw [ih1, ih2]
theorem ker_pr : ∀ {l : List Nat}, (∀ q ∈ l, primeB q = true) → l.Nodup → (prodL l ≠ 0) ∧ ∀ q, q ∈ fks (prodL l) ↔ q ∈ l := fun {l} hl hn => by
  have hpos : 1 ≤ prodL l := prodL_pos l fun x hx => by have := primeB_two (hl x hx); omega
  refine ⟨by omega, fun q => ?_⟩
  rw [mem_fks hpos]
  constructor
  · rintro ⟨hq, hd⟩
    have hd2 := Nat.dvd_of_mod_eq_zero hd
    clear hd hpos hn
    induction l with
    | nil => have := primeB_two hq; have h1 : q ∣ 1 := hd2; have := Nat.le_of_dvd (by omega) h1; omega
    | cons x l ih =>
      rw [prodL] at hd2
      rcases pr_mul hq hd2 with h1 | h1
      · rw [pr_eq (hl x (List.mem_cons_self ..)) (primeB_two hq) h1]; exact List.mem_cons_self ..
      · exact List.mem_cons_of_mem _ (ih (fun y hy => hl y (List.mem_cons_of_mem _ hy)) h1)
  · intro hq
    refine ⟨hl q hq, ?_⟩
    rw [prodL_erase hq]
    exact Nat.mul_mod_right _ _
/-- The kernel is square-free, and its own kernel. -/
theorem ker_free {n : Nat} (hn : 1 ≤ n) : sfB (prodL (fks n)) = true ∧ 1 ≤ prodL (fks n) ∧ prodL (fks n) ≤ n := by
  have hpos : 1 ≤ prodL (fks n) := prodL_pos _ fun x hx => by have := fks_pos hn x hx; omega
  refine ⟨?_, hpos, rad_le n hn⟩
  rw [sf_kernel hpos]
  have hm := (ker_pr (l := fks n) (fun q hq => ((mem_fks hn).1 hq).1) (fks_nodup n)).2
  exact prodL_perm ((List.perm_ext_iff_of_nodup (fks_nodup _) (fks_nodup n)).2 hm)
/-- One prime more turns the sign. -/
theorem sg_prime {n p : Nat} (hn : 1 ≤ n) (hp : primeB p = true) (h : n % p ≠ 0) : sgF (n * p) = -sgF n := by
  have p2 := primeB_two hp
  have hnp : 1 ≤ n * p := Nat.mul_pos hn (by omega)
  have hmem : ∀ q, q ∈ fks (n * p) ↔ q ∈ p :: fks n := fun q => by
    rw [mem_fks hnp, List.mem_cons, mem_fks hn]
    constructor
    · rintro ⟨hq, hd⟩
      rcases pr_mul hq (Nat.dvd_of_mod_eq_zero hd) with h1 | h1
      · exact .inr ⟨hq, Nat.mod_eq_zero_of_dvd h1⟩
      · exact .inl (pr_eq hp (primeB_two hq) h1)
    · rintro (rfl | ⟨hq, hd⟩)
      · exact ⟨hp, Nat.mul_mod_left _ _⟩
      · exact ⟨hq, Nat.mod_eq_zero_of_dvd (Nat.dvd_trans (Nat.dvd_of_mod_eq_zero hd) (Nat.dvd_mul_right _ _))⟩
  have hnd : (p :: fks n).Nodup := List.nodup_cons.2 ⟨fun hh => h ((mem_fks hn).1 hh).2, fks_nodup n⟩
  have hperm := (List.perm_ext_iff_of_nodup (fks_nodup (n * p)) hnd).2 hmem
  have e1 : prodL (fks (n * p)) = p * prodL (fks n) := by rw [prodL_perm hperm, prodL]
  have e2 : (fks (n * p)).length = (fks n).length + 1 := by rw [hperm.length_eq, List.length_cons]
  rw [sgF, sgF, e1, e2]
  by_cases hk : prodL (fks n) = n
  · rw [if_pos (by rw [hk, Nat.mul_comm]), if_pos hk]
    split <;> split <;> omega
  · rw [if_neg (fun hh => hk (Nat.eq_of_mul_eq_mul_left (show 0 < p by omega) (by rw [hh, Nat.mul_comm]))), if_neg hk]; rfl
/-- Signs go with products, for factors up to 6. -/
theorem sg_times {n m : Nat} (hn : 1 ≤ n) (h1 : 1 ≤ m) (h6 : m ≤ 6) (hg : Nat.gcd n m = 1) : sgF m * sgF n = sgF (n * m) := by
  have nod : ∀ p, 2 ≤ p → m % p = 0 → n % p ≠ 0 := fun p hp hmp hnp => by
    have := Nat.dvd_gcd (Nat.dvd_of_mod_eq_zero hnp) (Nat.dvd_of_mod_eq_zero hmp)
    rw [hg] at this
    have := Nat.le_of_dvd (by omega) this
    omega
  have s1 : sgF 1 = 1 := by decide +kernel
  have s2 : sgF 2 = -1 := by decide +kernel
  have s3 : sgF 3 = -1 := by decide +kernel
  have s4 : sgF 4 = 0 := by decide +kernel
  have s5 : sgF 5 = -1 := by decide +kernel
  have s6 : sgF 6 = 1 := by decide +kernel
  have p2 : primeB 2 = true := by decide +kernel
  have p3 : primeB 3 = true := by decide +kernel
  have p5 : primeB 5 = true := by decide +kernel
  rcases (show m = 1 ∨ m = 2 ∨ m = 3 ∨ m = 4 ∨ m = 5 ∨ m = 6 by omega) with rfl | rfl | rfl | rfl | rfl | rfl
  · rw [s1, Nat.mul_one, Int.one_mul]
  · rw [s2, sg_prime hn p2 (nod 2 (by omega) rfl)]; omega
  · rw [s3, sg_prime hn p3 (nod 3 (by omega) rfl)]; omega
  · rw [s4, Int.zero_mul]
    have h4 : 1 ≤ n * 4 := by omega
    have : ¬ sgF (n * 4) ≠ 0 := fun hh => by
      have := (sfB_iff h4).1 ((sf_sign h4).2 hh) 2 (by omega)
      exact this ⟨n, by omega⟩
    omega
  · rw [s5, sg_prime hn p5 (nod 5 (by omega) rfl)]; omega
  · have h2 := nod 2 (by omega) rfl
    have h3 := nod 3 (by omega) rfl
    have h23 : n * 2 % 3 ≠ 0 := by omega
    have e := sg_prime (n := n * 2) (by omega) p3 h23
    rw [sg_prime hn p2 h2, show n * 2 * 3 = n * 6 by omega] at e
    rw [s6, e]; omega
/-! Lists of square-free numbers. -/
theorem sl_par : ∀ k, -((flF sfB 1 k).length : Int) ≤ sgS k ∧ sgS k ≤ ((flF sfB 1 k).length : Int) ∧ (((flF sfB 1 k).length : Int) - sgS k) % 2 = 0
  | 0 => by simp [sgS, flF]
  | k + 1 => by
    obtain ⟨a, b, c⟩ := sl_par k
    have hb := sgF_bound (k + 1)
    have hs := sf_sign (N := k + 1) (by omega)
    cases h : sfB (1 + k) with
    | true =>
      rw [flF_yes h, List.length_append, List.length_singleton, sgS]
      rw [show 1 + k = k + 1 by omega] at h
      have := hs.1 h
      omega
    | false =>
      rw [flF_no h, sgS]
      rw [show 1 + k = k + 1 by omega] at h
      have h0 : sgF (k + 1) = 0 := by
        rcases Int.decEq (sgF (k + 1)) 0 with h2 | h2
        · rw [hs.2 h2] at h; cases h
        · exact h2
      omega
theorem ls_inv : ∀ k, (lsS k).2.2 ≤ k ∧ (∀ j, k - (lsS k).2.2 < j → j ≤ k → sfB j = false) ∧ (0 < (lsS k).1 → 1 ≤ (lsS k).2.1 ∧ (lsS k).2.1 + (lsS k).1 ≤ k + 1 ∧ ∀ j, (lsS k).2.1 ≤ j → j < (lsS k).2.1 + (lsS k).1 → sfB j = false)
  | 0 => by refine ⟨by simp [lsS], fun j h1 h2 => ?_, fun h => ?_⟩ <;> simp [lsS] at * <;> omega
  | k + 1 => by
    obtain ⟨a, b, c⟩ := ls_inv k
    cases h : sfB (k + 1) with
    | true =>
      rw [lsS_free h]
      exact ⟨Nat.zero_le _, fun j h1 h2 => by simp at h1; omega, fun h0 => by
        obtain ⟨x, y, z⟩ := c h0
        exact ⟨x, by show (lsS k).2.1 + (lsS k).1 ≤ k + 1 + 1; omega, z⟩⟩
    | false =>
      by_cases h2 : (lsS k).1 < (lsS k).2.2 + 1
      · rw [lsS_more h h2]
        refine ⟨by show (lsS k).2.2 + 1 ≤ k + 1; omega, fun j h3 h4 => ?_, fun _ => ⟨by show 1 ≤ k + 1 - (lsS k).2.2; omega, by show k + 1 - (lsS k).2.2 + ((lsS k).2.2 + 1) ≤ k + 1 + 1; omega, fun j h3 h4 => ?_⟩⟩
        · have h3' : k + 1 - ((lsS k).2.2 + 1) < j := h3
          by_cases hj : j = k + 1
          · rw [hj]; exact h
          · exact b j (by omega) (by omega)
        · have h3' : k + 1 - (lsS k).2.2 ≤ j := h3
          have h4' : j < k + 1 - (lsS k).2.2 + ((lsS k).2.2 + 1) := h4
          by_cases hj : j = k + 1
          · rw [hj]; exact h
          · exact b j (by omega) (by omega)
      · rw [lsS_same h h2]
        refine ⟨by show (lsS k).2.2 + 1 ≤ k + 1; omega, fun j h3 h4 => ?_, fun h0 => ?_⟩
        · have h3' : k + 1 - ((lsS k).2.2 + 1) < j := h3
          by_cases hj : j = k + 1
          · rw [hj]; exact h
          · exact b j (by omega) (by omega)
        · obtain ⟨x, y, z⟩ := c h0
          exact ⟨x, by show (lsS k).2.1 + (lsS k).1 ≤ k + 1 + 1; omega, z⟩
theorem sr_at : ∀ i, srF i ≤ 100002 → sfB (srF i) = true ∧ (flF sfB 1 (srF i - 1)).length = i ∧ 1 ≤ srF i
  | 0, _ => ⟨by decide +kernel, rfl, Nat.le_refl _⟩
  | i + 1, h => by
    have hm := srF_mono i 1
    obtain ⟨a, b, c⟩ := sr_at i (by omega)
    have hn := sf_next (n := srF i) (by omega)
    have he : srF (i + 1) = nsF (srF i + 1) := rfl
    rw [he]
    obtain ⟨n1, n2, n3, n4⟩ := hn
    refine ⟨n3, ?_, by omega⟩
    obtain ⟨s, hs⟩ : ∃ s, srF i = s + 1 := ⟨srF i - 1, by omega⟩
    obtain ⟨t, ht⟩ : ∃ t, nsF (srF i + 1) = t + 1 := ⟨nsF (srF i + 1) - 1, by omega⟩
    rw [ht] at n3 n4 ⊢
    rw [hs, Nat.add_sub_cancel] at b
    rw [hs] at a n4
    rw [flF_yes (show sfB (1 + t) = true by rw [show 1 + t = t + 1 by omega]; exact n3), List.length_append, List.length_singleton] at n4
    rw [flF_yes (show sfB (1 + s) = true by rw [show 1 + s = s + 1 by omega]; exact a), List.length_append, List.length_singleton] at n4
    rw [Nat.add_sub_cancel]
    omega
/-- The list's number with an index is the one with that rank. -/
theorem sr_list {M i : Nat} (hi : i < (flF sfB 1 M).length) (h3 : i ≤ 300) : ivL (flF sfB 1 M) i = (srF i : Int) := by
  have hle := srF_le h3
  obtain ⟨a, b, c⟩ := sr_at i (by omega)
  obtain ⟨s, hs⟩ : ∃ s, srF i = s + 1 := ⟨srF i - 1, by omega⟩
  rw [hs, Nat.add_sub_cancel] at b
  rw [hs] at a ⊢
  have hsM : s < M := by
    rcases Nat.lt_or_ge s M with h | h
    · exact h
    · obtain ⟨d, rfl⟩ : ∃ d, s = M + d := ⟨s - M, by omega⟩
      rw [flF_add, List.length_append] at b
      omega
  have := flF_at (p := sfB) (a := 1) (j := s) (k := M) (by rw [show 1 + s = s + 1 by omega]; exact a) hsM
  rw [b] at this
  rw [ivL, List.getD_eq_getElem?_getD, this]
  show ((1 + s : Nat) : Int) = ((s + 1 : Nat) : Int)
  omega

end Go.Proofs.Ytehppjdiegoeeaa
