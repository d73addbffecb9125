import Derived.Test.YtgkciiklgadgkaaI2
import Derived.Test.YtgkciiklgadgkaaI0
import Derived.Test.YtgkciiklgadgkaaKQ
import Derived.Test.YtgkciiklgadgkaaC4
namespace Go.Proofs.Ytgkciiklgadgkaa
open Go.RowKit
set_option maxRecDepth 100000
set_option linter.unusedVariables false
set_option linter.unusedSimpArgs false

/-! Runs of numbers that primes divide, and choices of remainders. -/
theorem mem_flC {p : Nat → Bool} {a k : Nat} {z : Int} : z ∈ flF p a k ↔ ∃ i, i < k ∧ p (a + i) = true ∧ z = ((a + i : Nat) : Int) := by
  rw [flF, List.mem_map]
  constructor
  · rintro ⟨i, hi, rfl⟩
    obtain ⟨h1, h2⟩ := List.mem_filter.1 hi
    exact ⟨i, List.mem_range.1 h1, h2, rfl⟩
  · rintro ⟨i, h1, h2, rfl⟩
    exact ⟨i, List.mem_filter.2 ⟨List.mem_range.2 h1, h2⟩, rfl⟩
theorem ru_out (xs : List Int) (m : Int) : leftF (ruL xs) m = false ↔ ∃ p ∈ xs, m % p = 0 := by
  rw [← Bool.not_eq_true, left_iff]
  constructor
  · intro h
    refine Classical.byContradiction fun hh => h fun r hr => ?_
    obtain ⟨p, hp, rfl⟩ := List.mem_map.1 hr
    rw [crossF_false, restF]
    exact fun e => hh ⟨p, hp, e⟩
  · rintro ⟨p, hp, e⟩ h
    have := h (p, 0) (List.mem_map.2 ⟨p, hp, rfl⟩)
    rw [crossF_false, restF] at this
    exact this e
theorem ch_out {rs : List (Int × Int)} {m : Int} : leftF rs m = false ↔ ∃ q ∈ rs, m % q.1 = q.2 := by
  rw [← Bool.not_eq_true, left_iff]
  constructor
  · intro h
    refine Classical.byContradiction fun hh => h fun r hr => ?_
    rw [crossF_false, restF]
    exact fun e => hh ⟨r, hr, e⟩
  · rintro ⟨q, hq, e⟩ h
    have := h q hq
    rw [crossF_false, restF] at this
    exact this e
theorem uF_at {p : Nat → Bool} {P N : Nat} (hm : 0 < (nlF p P).length) (h0 : uF p P 0 ≤ N) : ∃ j, uF p P j ≤ N ∧ N < uF p P (j + 1) := by
  have key : ∀ m, (∃ j, uF p P j ≤ N ∧ N < uF p P (j + 1)) ∨ uF p P m ≤ N := by
    intro m
    induction m with
    | zero => exact .inr h0
    | succ m ih =>
      rcases ih with h | h
      · exact .inl h
      · rcases Nat.lt_or_ge N (uF p P (m + 1)) with h1 | h1
        · exact .inl ⟨m, h, h1⟩
        · exact .inr h1
  rcases key (N + 1) with h | h
  · exact h
  · have := uF_mono hm 0 (N + 1)
    rw [Nat.zero_add] at this
    omega
/-- The longest run of numbers that are out. -/
theorem ro_iff {rs : List (Int × Int)} (h : gpO rs = true) {K : Nat} : (K : Int) ≤ roV rs ↔ ∃ n : Nat, ∀ i, i < K → lfQ rs (n + 1 + i) = false := by
  obtain ⟨h1, h2⟩ := gpO_parts h
  obtain ⟨_, _, h3, _⟩ := perOk_parts h1
  have hper := lf_per h1
  have hlen := gpA_nl h1
  have hcy := gpGA_cy h
  have e : roV rs = mxL (gpGA rs) (gpA rs).length - 1 := by rw [roV_yes h, mxO_is _ h2 (fun i hi => gpGA_pos h hi)]
  obtain ⟨P, hP⟩ : ∃ P, (perF rs).toNat = P := ⟨_, rfl⟩
  rw [hP] at hper hlen hcy
  have hP0 : 0 < P := by omega
  have hm : 0 < (nlF (lfQ rs) P).length := by omega
  constructor
  · intro hK
    obtain ⟨i, hi, e2⟩ := mxL_at (gpGA rs) h2
    have e3 := cyG_at hm i
    rw [← hcy, ← hlen, Nat.mod_eq_of_lt hi] at e3
    refine ⟨uF (lfQ rs) P i, fun t ht => uF_between hP0 hper (j := i) (by omega) (by omega)⟩
  · rintro ⟨n, hn⟩
    have hn' : ∀ i, i < K → lfQ rs (n + P + 1 + i) = false := fun i hi => by
      rw [show n + P + 1 + i = (n + 1 + i) + P by omega, hper]; exact hn i hi
    have hu0 : uF (lfQ rs) P 0 ≤ n + P := by
      have h5 : uF (lfQ rs) P 0 = (nlF (lfQ rs) P).getD 0 0 := by rw [uF, Nat.zero_mod, Nat.zero_div, Nat.mul_zero, Nat.add_zero]
      have := (nl_at (p := lfQ rs) (P := P) (i := 0) hm).1
      omega
    obtain ⟨j, j1, j2⟩ := uF_at hm hu0
    have j3 : n + P + K < uF (lfQ rs) P (j + 1) := by
      rcases Nat.lt_or_ge (n + P + K) (uF (lfQ rs) P (j + 1)) with h6 | h6
      · exact h6
      · have a := hn' (uF (lfQ rs) P (j + 1) - (n + P + 1)) (by omega)
        rw [show n + P + 1 + (uF (lfQ rs) P (j + 1) - (n + P + 1)) = uF (lfQ rs) P (j + 1) by omega, uF_true hper hm] at a
        cases a
    have e3 := cyG_at hm j
    rw [← hcy, ← hlen] at e3
    have := mxL_ge (gpGA rs) (Nat.mod_lt j h2)
    omega
/-! Primes are few. -/
theorem six_of {xs : List Int} (h : gpP xs = true) : ∀ x ∈ xs, x = 2 ∨ x = 3 ∨ x = 5 ∨ x = 7 ∨ x = 11 ∨ x = 13 := fun x hx => by
  obtain ⟨i, hi, rfl⟩ := List.getElem_of_mem hx
  have h2 := (dpB_iff.1 (gpP_parts h).2.1).2 i hi
  rw [dfB, Bool.and_eq_true] at h2
  obtain ⟨k, hk, e⟩ := reB_iff.1 h2.1
  rw [ivL, List.getD_eq_getElem?_getD, List.getElem?_eq_getElem hi, Option.getD_some] at e
  rw [e]
  rcases (show k = 0 ∨ k = 1 ∨ k = 2 ∨ k = 3 ∨ k = 4 ∨ k = 5 by omega) with rfl | rfl | rfl | rfl | rfl | rfl <;> decide
theorem ris_pair {xs : List Int} (h : risB xs = true) : xs.Pairwise (· < ·) := by
  have hs : ∀ i, i + 1 < xs.length → ivL xs i < ivL xs (i + 1) := fun i hi => by
    rw [risB, List.all_eq_true] at h
    exact of_decide_eq_true (h i (List.mem_range.2 (by omega)))
  have hlt : ∀ d i, i + d + 1 < xs.length → ivL xs i < ivL xs (i + d + 1) := by
    intro d
    induction d with
    | zero => exact fun i hi => hs i hi
    | succ d ih =>
      intro i hi
      have a := ih i (by omega)
      have b := hs (i + d + 1) (by omega)
      rw [show i + (d + 1) + 1 = i + d + 1 + 1 by omega]
      omega
  rw [List.pairwise_iff_getElem]
  intro i j hi hj hij
  have := hlt (j - i - 1) i (by omega)
  rw [show i + (j - i - 1) + 1 = j by omega] at this
  simpa [ivL, hi, hj] using this
theorem six_run_t : ((List.range 30030).all fun s => (List.range 40).any fun i => (s + 1 + i) % 2 != 0 && (s + 1 + i) % 3 != 0 && (s + 1 + i) % 5 != 0 && (s + 1 + i) % 7 != 0 && (s + 1 + i) % 11 != 0 && (s + 1 + i) % 13 != 0) = true := by decide +kernel
theorem six_run (n : Nat) : ∃ i, i < 40 ∧ (n + 1 + i) % 2 ≠ 0 ∧ (n + 1 + i) % 3 ≠ 0 ∧ (n + 1 + i) % 5 ≠ 0 ∧ (n + 1 + i) % 7 ≠ 0 ∧ (n + 1 + i) % 11 ≠ 0 ∧ (n + 1 + i) % 13 ≠ 0 := by
  have h := List.all_eq_true.1 six_run_t (n % 30030) (List.mem_range.2 (Nat.mod_lt _ (by omega)))
  obtain ⟨i, hi, h2⟩ := List.any_eq_true.1 h
  simp only [Bool.and_eq_true, bne_iff_ne, ne_eq] at h2
  obtain ⟨⟨⟨⟨⟨a, b⟩, c⟩, d⟩, e⟩, f⟩ := h2
  refine ⟨i, List.mem_range.1 hi, ?_⟩
  generalize hs : n % 30030 = s at *
  have hq := Nat.div_add_mod n 30030
  rw [hs] at hq
  obtain ⟨q, hq2⟩ : ∃ q, n / 30030 = q := ⟨_, rfl⟩
  rw [hq2] at hq
  subst hq
  omega
theorem run_few {xs : List Int} (h : gpP xs = true) {n K : Nat} (hK : ∀ i, i < K → ∃ p ∈ xs, ((n + 1 + i : Nat) : Int) % p = 0) : K ≤ 39 := by
  rcases Nat.lt_or_ge 39 K with h1 | h1
  · obtain ⟨i, hi, a⟩ := six_run n
    obtain ⟨p, hp, e⟩ := hK i (by omega)
    rcases six_of h p hp with rfl | rfl | rfl | rfl | rfl | rfl <;> omega
  · exact h1
/-! All choices of remainders are told. -/
theorem ch_onto (f : Int → Nat) : ∀ {xs : List Int}, (∀ x ∈ xs, 1 ≤ x ∧ f x < x.toNat) → ∃ r, r < prodN xs ∧ chR xs r = xs.map fun x => (x, (f x : Int))
  | [], _ => ⟨0, Nat.one_pos, rfl⟩
  | x :: t, h => by
    obtain ⟨r, h1, h2⟩ := ch_onto f (xs := t) fun y hy => h y (by simp [hy])
    have ht : ∀ y ∈ t, (1 : Int) ≤ y := fun y hy => (h y (by simp [hy])).1
    have hx := (h x (by simp)).2
    refine ⟨prodN t * f x + r, ?_, by rw [chR_first ht hx h1, h2]; rfl⟩
    rw [prodN]
    have h3 : (f x + 1) * prodN t ≤ x.toNat * prodN t := Nat.mul_le_mul_right _ hx
    rw [Nat.add_mul, Nat.one_mul, Nat.mul_comm (f x)] at h3
    omega
/-- Some number has the told remainders. -/
theorem ch_num (r : Nat) : ∀ {xs : List Int}, xs.Pairwise (· < ·) → (∀ x ∈ xs, x = 2 ∨ x = 3 ∨ x = 5 ∨ x = 7 ∨ x = 11 ∨ x = 13) → ∃ n : Nat, ∀ q ∈ chR xs r, ((n : Int) + q.2) % q.1 = 0
  | [], _, _ => ⟨0, fun q hq => by cases hq⟩
  | x :: t, hp, hx => by
    obtain ⟨hp1, hp2⟩ := List.pairwise_cons.1 hp
    obtain ⟨n, hn⟩ := ch_num r hp2 fun y hy => hx y (by simp [hy])
    obtain ⟨v, hv⟩ : ∃ v : Nat, r / prodN t % x.toNat = v := ⟨_, rfl⟩
    have hmem : ∀ q ∈ chR t r, x < q.1 ∧ (q.1 = 2 ∨ q.1 = 3 ∨ q.1 = 5 ∨ q.1 = 7 ∨ q.1 = 11 ∨ q.1 = 13) := fun q hq => by
      obtain ⟨k, hk, rfl⟩ := List.getElem_of_mem hq
      have hk2 : k < t.length := by rw [← chR_len t r]; exact hk
      have e := chR_at r hk2
      rw [List.getElem?_eq_getElem hk] at e
      injection e with e
      rw [e]
      have hm : ivL t k ∈ t := by simp [ivL, hk2]
      exact ⟨hp1 _ hm, hx _ (by simp [hm])⟩
    have hq2 : ∀ q ∈ chR t r, ∃ u : Int, u = q.2 := fun q _ => ⟨_, rfl⟩
    obtain ⟨m, hm⟩ : ∃ m : Nat, m = x.toNat - (n + v) % x.toNat := ⟨_, rfl⟩
    rcases hx x (by simp) with rfl | rfl | rfl | rfl | rfl | rfl
    · refine ⟨n + 15015 * m, fun q hq => ?_⟩
      rw [chR, hv] at hq
      rcases List.mem_cons.1 hq with rfl | hq
      · simp only [show (2 : Int).toNat = 2 from rfl] at hm; show (_ + (v : Int)) % 2 = 0; omega
      · have a := hn q hq
        obtain ⟨u, hu⟩ := hq2 q hq
        rw [← hu] at a ⊢
        obtain ⟨b, c⟩ := hmem q hq
        rcases c with c | c | c | c | c | c <;> rw [c] at a b ⊢ <;> omega
    · refine ⟨n + 20020 * m, fun q hq => ?_⟩
      rw [chR, hv] at hq
      rcases List.mem_cons.1 hq with rfl | hq
      · simp only [show (3 : Int).toNat = 3 from rfl] at hm; show (_ + (v : Int)) % 3 = 0; omega
      · have a := hn q hq
        obtain ⟨u, hu⟩ := hq2 q hq
        rw [← hu] at a ⊢
        obtain ⟨b, c⟩ := hmem q hq
        rcases c with c | c | c | c | c | c <;> rw [c] at a b ⊢ <;> omega
    · refine ⟨n + 6006 * m, fun q hq => ?_⟩
      rw [chR, hv] at hq
      rcases List.mem_cons.1 hq with rfl | hq
      · simp only [show (5 : Int).toNat = 5 from rfl] at hm; show (_ + (v : Int)) % 5 = 0; omega
      · have a := hn q hq
        obtain ⟨u, hu⟩ := hq2 q hq
        rw [← hu] at a ⊢
        obtain ⟨b, c⟩ := hmem q hq
        rcases c with c | c | c | c | c | c <;> rw [c] at a b ⊢ <;> omega
    · refine ⟨n + 25740 * m, fun q hq => ?_⟩
      rw [chR, hv] at hq
      rcases List.mem_cons.1 hq with rfl | hq
      · simp only [show (7 : Int).toNat = 7 from rfl] at hm; show (_ + (v : Int)) % 7 = 0; omega
      · have a := hn q hq
        obtain ⟨u, hu⟩ := hq2 q hq
        rw [← hu] at a ⊢
        obtain ⟨b, c⟩ := hmem q hq
        rcases c with c | c | c | c | c | c <;> rw [c] at a b ⊢ <;> omega
    · refine ⟨n + 16380 * m, fun q hq => ?_⟩
      rw [chR, hv] at hq
      rcases List.mem_cons.1 hq with rfl | hq
      · simp only [show (11 : Int).toNat = 11 from rfl] at hm; show (_ + (v : Int)) % 11 = 0; omega
      · have a := hn q hq
        obtain ⟨u, hu⟩ := hq2 q hq
        rw [← hu] at a ⊢
        obtain ⟨b, c⟩ := hmem q hq
        rcases c with c | c | c | c | c | c <;> rw [c] at a b ⊢ <;> omega
    · refine ⟨n + 6930 * m, fun q hq => ?_⟩
      rw [chR, hv] at hq
      rcases List.mem_cons.1 hq with rfl | hq
      · simp only [show (13 : Int).toNat = 13 from rfl] at hm; show (_ + (v : Int)) % 13 = 0; omega
      · have a := hn q hq
        obtain ⟨u, hu⟩ := hq2 q hq
        rw [← hu] at a ⊢
        obtain ⟨b, c⟩ := hmem q hq
        rcases c with c | c | c | c | c | c <;> rw [c] at a b ⊢ <;> omega
/-- The longest run out is the greatest length that is covered. -/
theorem cv_run {xs : List Int} (h : gpP xs = true) (ho : gpO (ruL xs) = true) : roV (ruL xs) = (mcG xs 40 0 : Int) := by
  rw [mostCovered_is h]
  have hx := six_of h
  have hp := ris_pair (gpP_parts h).2.2
  have hmem : ∀ r, ∀ q ∈ chR xs r, q.1 ∈ xs := fun r q hq => by
    obtain ⟨k, hk, rfl⟩ := List.getElem_of_mem hq
    have hk2 : k < xs.length := by rw [← chR_len xs r]; exact hk
    have e := chR_at r hk2
    rw [List.getElem?_eq_getElem hk] at e
    injection e with e
    rw [e]
    simp [ivL, hk2]
  have h1 : ((lcM xs (prodN xs) : Nat) : Int) ≤ roV (ruL xs) := by
    obtain ⟨r, hr, e⟩ := lcM_at xs (gpP_prod h).1
    rw [ro_iff ho]
    obtain ⟨n, hn⟩ := ch_num r hp hx
    refine ⟨n, fun i hi => ?_⟩
    have hc := covB_iff.1 (by rw [cov_lc (lcM_le xs _), e]; exact decide_eq_true (Nat.le_refl _)) i hi
    obtain ⟨q, hq, e2⟩ := ch_out.1 hc
    rw [lfQ, ru_out]
    refine ⟨q.1, hmem r q hq, ?_⟩
    have a := hn q hq
    have e3 : ((n + 1 + i : Nat) : Int) = ((n : Int) + q.2) + ((i : Int) + 1 - q.2) := by omega
    have e4 : ((i : Int) + 1 - q.2) % q.1 = 0 := by rw [← e2, show ((i : Int) + 1) - ((i : Int) + 1) % q.1 = q.1 * (((i : Int) + 1) / q.1) by rw [Int.emod_def]; omega]; exact Int.mul_emod_right _ _
    rw [e3, Int.add_emod, a, e4]; rfl
  have h2 : roV (ruL xs) ≤ ((lcM xs (prodN xs) : Nat) : Int) := by
    obtain ⟨K, hK⟩ := Int.eq_ofNat_of_zero_le (show 0 ≤ roV (ruL xs) by omega)
    obtain ⟨n, hn⟩ := (ro_iff ho (K := K)).1 (by omega)
    have hn2 : ∀ i, i < K → ∃ p ∈ xs, ((n + 1 + i : Nat) : Int) % p = 0 := fun i hi => (ru_out _ _).1 (hn i hi)
    have hK9 := run_few h hn2
    obtain ⟨r, hr, e⟩ := ch_onto (fun p => ((-(n : Int)) % p).toNat) (xs := xs) fun x hx2 => by
      have := gpP_mem h x hx2
      have a := Int.emod_nonneg (-(n : Int)) (show x ≠ 0 by omega)
      have b := Int.emod_lt_of_pos (-(n : Int)) (show 0 < x by omega)
      omega
    have hc : covB (chR xs r) K = true := covB_iff.2 fun i hi => by
      obtain ⟨p, hp2, e2⟩ := hn2 i hi
      rw [ch_out, e]
      refine ⟨_, List.mem_map.2 ⟨p, hp2, rfl⟩, ?_⟩
      have := gpP_mem h p hp2
      have a := Int.emod_nonneg (-(n : Int)) (show p ≠ 0 by omega)
      show ((i : Int) + 1) % p = (((-(n : Int)) % p).toNat : Int)
      rw [Int.toNat_of_nonneg a]
      have e3 : (i : Int) + 1 = -(n : Int) + ((n + 1 + i : Nat) : Int) := by omega
      rw [e3, Int.add_emod, e2, Int.add_zero, Int.emod_emod]
    rw [cov_lc (by omega)] at hc
    have := of_decide_eq_true hc
    have := lcM_ge xs hr
    omega
  omega
theorem perGo_six : ∀ (xs : List Int) (p : Nat), (∀ x ∈ xs, x = 2 ∨ x = 3 ∨ x = 5 ∨ x = 7 ∨ x = 11 ∨ x = 13) → p ∣ 30030 → perGo (ruL xs) (p : Int) ≠ 0
  | [], p, _, hp => by
    have : p ≠ 0 := fun e => by subst e; have := Nat.eq_zero_of_zero_dvd hp; omega
    show (p : Int) ≠ 0
    omega
  | x :: t, p, hx, hp => by
    have h1 : ∃ y : Nat, x = (y : Int) ∧ y ∣ 30030 := by
      rcases hx x (by simp) with rfl | rfl | rfl | rfl | rfl | rfl
      · exact ⟨2, rfl, by decide⟩
      · exact ⟨3, rfl, by decide⟩
      · exact ⟨5, rfl, by decide⟩
      · exact ⟨7, rfl, by decide⟩
      · exact ⟨11, rfl, by decide⟩
      · exact ⟨13, rfl, by decide⟩
    obtain ⟨y, rfl, hy⟩ := h1
    have hl : Nat.lcm p y ∣ 30030 := Nat.lcm_dvd hp hy
    have hb := Nat.le_of_dvd (by omega) hl
    show (if 100000 < lcmF (p : Int) (y : Int) then (0 : Int) else perGo (ruL t) (lcmF (p : Int) (y : Int))) ≠ 0
    rw [lcm_nat, if_neg (by omega)]
    exact perGo_six t _ (fun z hz => hx z (by simp [hz])) hl
theorem cv_gpO {xs : List Int} (h : gpP xs = true) (h1 : 0 < xs.length) : gpO (ruL xs) = true := by
  have hg : goodL (ruL xs) = true := by rw [← chR_zero]; exact chR_good h 0
  have hz : perF (ruL xs) ≠ 0 := perGo_six xs 1 (six_of h) (by decide)
  have hper : perOk (ruL xs) = true := by rw [perOk, hg, Bool.true_and, Bool.not_eq_true', beq_eq_false_iff_ne]; exact hz
  obtain ⟨_, _, p1, _⟩ := perOk_parts hper
  rw [gpO_ok hper, decide_eq_true_eq, gpA_ok hper]
  obtain ⟨x, hx⟩ := List.exists_mem_of_length_pos h1
  have hd := per_dvd hg hz (x, 0) (List.mem_map.2 ⟨x, hx, rfl⟩)
  have hx2 := gpP_mem h x hx
  have hle := Int.le_of_dvd (by omega) hd
  refine List.length_pos_of_mem (a := ((0 + 1 : Nat) : Int)) (mem_flC.2 ⟨1, ?_, ?_, rfl⟩)
  · have : (2 : Int) ≤ perF (ruL xs) := Int.le_trans hx2.1 hle
    omega
  · rw [lfQ]
    cases hl : leftF (ruL xs) ((0 + 1 : Nat) : Int) with
    | true => rfl
    | false =>
      obtain ⟨p, hp, e⟩ := (ru_out _ _).1 hl
      have := gpP_mem h p hp
      rw [Int.emod_eq_of_lt (by omega) (by omega)] at e
      omega
/-! Covers. -/
theorem cv_head {xs : List Int} (h : gpP xs = true) {n : Nat} (hn : n ≤ 40) (hc : 0 < (cvA xs n).length) : ∃ r, hdR (cvA xs n) = chR xs r ∧ covB (chR xs r) n = true := by
  rw [cvA_eq (gpP_pos h) hn] at hc ⊢
  rw [List.length_map] at hc
  obtain ⟨r, t, e⟩ := List.exists_cons_of_length_pos hc
  have hr : r ∈ (List.range (prodN xs)).filter fun r => decide (n ≤ lcV (chR xs r)) := by rw [e]; simp
  rw [e]
  exact ⟨r, rfl, by rw [cov_lc hn]; exact (List.mem_filter.1 hr).2⟩
theorem ck_mono {xs : List Int} {n : Nat} : ∀ k, ckF xs (n + 1) k ≤ ckF xs n k
  | 0 => Nat.le_refl _
  | k + 1 => by
    have ih := ck_mono (xs := xs) (n := n) k
    by_cases h1 : n + 1 ≤ lcV (chR xs k)
    · rw [ckF_yes h1, ckF_yes (by omega)]; omega
    · rw [ckF_no h1]
      by_cases h2 : n ≤ lcV (chR xs k)
      · rw [ckF_yes h2]; omega
      · rw [ckF_no h2]; exact ih
theorem cv_less {xs : List Int} (h : gpP xs = true) {n : Nat} (hn : n + 1 ≤ 40) : (cvA xs (n + 1)).length ≤ (cvA xs n).length := by
  rw [cvA_count h hn, cvA_count h (by omega)]
  exact ck_mono _
theorem cv_some {xs : List Int} (h : gpP xs = true) {n : Nat} (hn : n ≤ 40) : 0 < (cvA xs n).length ↔ n ≤ mcG xs 40 0 := by
  rw [mostCovered_is h]
  constructor
  · intro hc
    rcases Nat.lt_or_ge (lcM xs (prodN xs)) n with h4 | h4
    · rw [cvA_none h hn fun r hr h5 => by have := lcM_ge xs hr; omega] at hc
      exact absurd hc (by simp)
    · exact h4
  · intro hm
    obtain ⟨r, hr, e⟩ := lcM_at xs (gpP_prod h).1
    rw [cvA_count h hn, ckF_is]
    exact List.length_pos_of_mem (List.mem_filter.2 ⟨List.mem_range.2 hr, decide_eq_true (by omega)⟩)
theorem mc_nil : mcG [] 40 0 = 0 := by
  rw [mostCovered_is (by decide)]
  decide
theorem cnt_zero {p : Int → Bool} : ∀ k, cntF p 1 k = 0 ↔ ∀ i : Nat, i < k → p ((i : Int) + 1) = false
  | 0 => ⟨fun _ i hi => by omega, fun _ => rfl⟩
  | k + 1 => by
    have e : ((1 : Nat) : Int) + (k : Int) = (k : Int) + 1 := by omega
    constructor
    · intro h i hi
      cases hp : p ((k : Int) + 1) with
      | true => rw [cntF_yes (by rw [e]; exact hp)] at h; omega
      | false =>
        rw [cntF_no (by rw [e]; exact hp)] at h
        rcases Nat.lt_succ_iff_lt_or_eq.1 hi with h1 | h1
        · exact (cnt_zero k).1 h i h1
        · rw [h1]; exact hp
    · intro h
      rw [cntF_no (by rw [e]; exact h k (by omega))]
      exact (cnt_zero k).2 fun i hi => h i (by omega)
theorem cov_cnt {rs : List (Int × Int)} {l : Nat} : covB rs l = decide (cntF (leftF rs) 1 l = 0) := by
  rw [Bool.eq_iff_iff, covB_iff, decide_eq_true_eq, cnt_zero]
/-! What FnCoversFound asks. -/
theorem cv_39 {xs : List Int} (h : gpP xs = true) : mcG xs 40 0 ≤ 39 := by
  rw [mostCovered_is h]
  obtain ⟨r, hr, e⟩ := lcM_at xs (gpP_prod h).1
  obtain ⟨n, hn⟩ := ch_num r (ris_pair (gpP_parts h).2.2) (six_of h)
  refine run_few h (n := n) fun i hi => ?_
  have hc := covB_iff.1 (by rw [cov_lc (lcM_le xs _), e]; exact decide_eq_true (Nat.le_refl _)) i hi
  obtain ⟨q, hq, e2⟩ := ch_out.1 hc
  have hm : q.1 ∈ xs := by
    obtain ⟨k, hk, rfl⟩ := List.getElem_of_mem hq
    have hk2 : k < xs.length := by rw [← chR_len xs r]; exact hk
    have e := chR_at r hk2
    rw [List.getElem?_eq_getElem hk] at e
    injection e with e
    rw [e]
    simp [ivL, hk2]
  refine ⟨q.1, hm, ?_⟩
  have a := hn q hq
  have e3 : ((n + 1 + i : Nat) : Int) = ((n : Int) + q.2) + ((i : Int) + 1 - q.2) := by omega
  have e4 : ((i : Int) + 1 - q.2) % q.1 = 0 := by rw [← e2, show ((i : Int) + 1) - ((i : Int) + 1) % q.1 = q.1 * (((i : Int) + 1) / q.1) by rw [Int.emod_def]; omega]; exact Int.mul_emod_right _ _
  rw [e3, Int.add_emod, a, e4]; rfl
theorem gq_ok {xs : List Int} (h : gpP xs = true) {n : Nat} (hn : n ≤ 40) : gqO xs (n : Int) = true := by
  rw [gqO, h, Bool.true_and]; exact inB_true.2 (by omega)
theorem ic_ok {xs : List Int} (h : gpP xs = true) {n r : Nat} (hn : n ≤ 40) (hc : covB (chR xs r) n = true) : icV (chR xs r) (n : Int) = true ∧ icO (chR xs r) (n : Int) = true := by
  have ho : icO (chR xs r) (n : Int) = true := by rw [icO, chR_good h r, Bool.true_and]; exact inB_true.2 (by omega)
  exact ⟨by rw [icV_yes ho]; exact hc, ho⟩
theorem cf_one {xs : List Int} (h : gpP xs = true) : ∃ (M r : Nat) (K : Int), mcV xs = (M : Int) ∧ M ≤ 39 ∧ (fcO xs (M : Int) = true ∧ fcV xs (M : Int) = chR xs r) ∧ (icV (chR xs r) (M : Int) = true ∧ icO (chR xs r) (M : Int) = true) ∧ (fcO xs ((M : Int) + 1) = false ∧ fcV xs ((M : Int) + 1) = []) ∧ (ccvV xs (M : Int) = K ∧ 1 ≤ K ∧ gqO xs (M : Int) = true) ∧ rwV xs = ruL xs ∧ (0 < xs.length → roV (ruL xs) = (M : Int) ∧ gpO (ruL xs) = true) ∧ (xs.length = 0 → M = 0) := by
  have h39 := cv_39 h
  obtain ⟨M, hM⟩ : ∃ M, mcG xs 40 0 = M := ⟨_, rfl⟩
  rw [hM] at h39
  have hc : 0 < (cvA xs M).length := (cv_some h (by omega)).2 (by omega)
  obtain ⟨r, hr, hcov⟩ := cv_head h (n := M) (by omega) hc
  have hq := gq_ok h (n := M) (by omega)
  have hq1 := gq_ok h (n := M + 1) (by omega)
  have hfo : fcO xs (M : Int) = true := by rw [fcO, hq, Int.toNat_natCast, Bool.true_and]; exact decide_eq_true hc
  have hno : fcO xs ((M : Int) + 1) = false := by
    have h2 : ¬ 0 < (cvA xs (M + 1)).length := fun hh => by have := (cv_some h (n := M + 1) (by omega)).1 hh; omega
    rw [show (M : Int) + 1 = ((M + 1 : Nat) : Int) by omega, fcO, hq1, Int.toNat_natCast, Bool.true_and]; exact decide_eq_false h2
  refine ⟨M, r, _, by rw [mcV_yes h, hM], h39, ⟨hfo, by rw [fcV_yes hfo, hr]⟩, ic_ok h (by omega) hcov, ⟨hno, fcV_no hno⟩, ⟨ccvV_yes hq, by omega, hq⟩, rwV_yes h, fun hl => ⟨by rw [cv_run h (cv_gpO h hl), hM], cv_gpO h hl⟩, fun hl => ?_⟩
  obtain rfl : xs = [] := List.length_eq_zero_iff.1 hl
  rw [mc_nil] at hM
  exact hM.symm
theorem cf_two {ys : List Int} {n : Int} (h : gqO ys n = true) : ∃ N K : Nat, n = (N : Int) ∧ N ≤ 40 ∧ ccvV ys n = (K : Int) ∧ fcO ys n = decide (0 < K) ∧
    (0 < K → ∃ r, fcV ys n = chR ys r ∧ icV (chR ys r) n = true ∧ icO (chR ys r) n = true) ∧ (0 < N → ∃ K2 : Nat, ccvV ys ((N : Int) - 1) = (K2 : Int) ∧ K ≤ K2 ∧ gqO ys ((N : Int) - 1) = true) := by
  obtain ⟨hg, h0, h9⟩ := gqO_parts h
  obtain ⟨N, rfl⟩ := Int.eq_ofNat_of_zero_le h0
  have hfo : fcO ys (N : Int) = decide (0 < (cvA ys N).length) := by rw [fcO, h, Int.toNat_natCast, Bool.true_and]
  refine ⟨N, (cvA ys N).length, rfl, by omega, ccvV_yes h, hfo, fun hk => ?_, fun hN => ?_⟩
  · obtain ⟨r, hr, hcov⟩ := cv_head hg (n := N) (by omega) hk
    have hy : fcO ys (N : Int) = true := by rw [hfo]; exact decide_eq_true hk
    exact ⟨r, by rw [fcV_yes hy, hr], ic_ok hg (by omega) hcov⟩
  · obtain ⟨k, rfl⟩ : ∃ k, N = k + 1 := ⟨N - 1, by omega⟩
    have hq := gq_ok hg (n := k) (by omega)
    rw [show ((k + 1 : Nat) : Int) - 1 = (k : Int) by omega]
    exact ⟨_, ccvV_yes hq, cv_less hg (by omega), hq⟩
theorem cf_not {ys : List Int} {n : Int} (h : gqO ys n = false) : fcO ys n = false ∧ ccvV ys n = 0 := ⟨by rw [fcO, h]; rfl, ccvV_no h⟩
theorem fcV_len {ys : List Int} {n : Int} : (fcV ys n).length ≤ 5 := by
  cases h : fcO ys n with
  | false => rw [fcV_no h]; exact Nat.zero_le _
  | true =>
    have h2 := h
    rw [fcO, Bool.and_eq_true] at h2
    obtain ⟨hg, h0, h9⟩ := gqO_parts h2.1
    obtain ⟨N, rfl⟩ := Int.eq_ofNat_of_zero_le h0
    have hc := of_decide_eq_true h2.2
    rw [Int.toNat_natCast] at hc
    obtain ⟨r, hr, _⟩ := cv_head hg (n := N) (by omega) hc
    rw [fcV_yes h, hr, chR_len]
    exact (gpP_parts hg).1
theorem cf_three {rs : List (Int × Int)} {n : Int} (h : icO rs n = true) : ∃ c : Nat, cntV rs n = (c : Int) ∧ okM rs n = true ∧ icV rs n = decide (c = 0) := by
  have h2 := h
  rw [icO, Bool.and_eq_true] at h2
  obtain ⟨h0, h9⟩ := inB_true.1 h2.2
  obtain ⟨N, rfl⟩ := Int.eq_ofNat_of_zero_le h0
  have hm : okM rs (N : Int) = true := by rw [okM, h2.1, Bool.true_and]; exact mostB_true.2 (by omega)
  exact ⟨_, by rw [cntV, hm, if_pos rfl, Int.toNat_natCast, ← cntF_up], hm, by rw [icV_yes h, cov_cnt]⟩

end Go.Proofs.Ytgkciiklgadgkaa
