import Derived.Test.YtehppjdiegoeeaaGK
import Derived.Test.YtehppjdiegoeeaaGD
import Derived.Test.YtehppjdiegoeeaaZ0
namespace Go.Proofs.Ytehppjdiegoeeaa
open Go.RowKit
set_option maxRecDepth 100000
set_option linter.unusedVariables false
set_option linter.unusedSimpArgs false

/-! Factors told again: what FnFactorsTold asks. -/
theorem leastF_pr {n : Nat} (h : 2 ≤ n) : primeB (leastF n) = true := by
  have h2 := leastF_ge h
  have h3 := leastF_ge h2
  have h4 := leastF_le (leastF n)
  have h5 := leastF_min (n := n) (by omega) h3 (mod_of_mod (leastF_dvd n) (leastF_dvd _))
  rw [primeB_of h2]
  exact decide_eq_true (by omega)
theorem facs_pr : ∀ (n : Nat), ∀ x ∈ facs n, primeB x.1 = true := by
  intro n
  induction n using Nat.strongRecOn with
  | ind n ih =>
    intro x hx
    by_cases h2 : 2 ≤ n
    · rw [facs_yes h2] at hx
      rcases List.mem_cons.1 hx with rfl | hx
      · exact leastF_pr h2
      · exact ih _ (str_lt (leastF_ge h2) (by omega) (leastF_dvd n)) x hx
    · rw [facs_no h2] at hx
      cases hx
theorem leastF_self {p : Nat} (h : primeB p = true) : leastF p = p := by
  rw [primeB_of (primeB_two h)] at h
  exact of_decide_eq_true h
theorem pr_or {p d : Nat} (hp : primeB p = true) : p ∣ d ∨ Nat.Coprime p d := by
  have h2 := primeB_two hp
  have hg0 : 0 < Nat.gcd p d := Nat.gcd_pos_of_pos_left _ (by omega)
  by_cases h1 : Nat.gcd p d = 1
  · exact .inr h1
  · have hd := Nat.gcd_dvd_left p d
    have h3 := leastF_min (n := p) (d := Nat.gcd p d) (by omega) (by omega) (Nat.mod_eq_zero_of_dvd hd)
    rw [leastF_self hp] at h3
    have h4 := Nat.le_of_dvd (by omega) hd
    have h5 : Nat.gcd p d = p := by omega
    exact .inl (by have := Nat.gcd_dvd_right p d; rwa [h5] at this)
theorem pr_mul {p a b : Nat} (hp : primeB p = true) (h : p ∣ a * b) : p ∣ a ∨ p ∣ b := by
  rcases pr_or (d := a) hp with h1 | h1
  · exact .inl h1
  · exact .inr (h1.dvd_of_dvd_mul_left h)
theorem pr_pow {p a : Nat} (hp : primeB p = true) : ∀ k, p ∣ a ^ k → p ∣ a
  | 0, h => by
    have := primeB_two hp
    rw [Nat.pow_zero] at h
    have := Nat.le_of_dvd (by omega) h
    omega
  | k + 1, h => by
    rw [Nat.pow_succ] at h
    rcases pr_mul hp h with h1 | h1
    · exact pr_pow hp k h1
    · exact h1
theorem pr_eq {p q : Nat} (hp : primeB p = true) (hq : 2 ≤ q) (h : q ∣ p) : q = p := by
  have h2 := primeB_two hp
  have h3 := leastF_min (n := p) (d := q) (by omega) hq (Nat.mod_eq_zero_of_dvd h)
  rw [leastF_self hp] at h3
  have := Nat.le_of_dvd (by omega) h
  omega
theorem pr_prodP {p : Nat} (hp : primeB p = true) : ∀ (l : List (Nat × Nat)), (∀ x ∈ l, primeB x.1 = true) → p ∣ prodP l → ∃ x ∈ l, x.1 = p
  | [], _, h => by
    have := primeB_two hp
    have h1 : p ∣ 1 := h
    have := Nat.le_of_dvd (by omega) h1
    omega
  | x :: l, hl, h => by
    rw [prodP_cons] at h
    rcases pr_mul hp h with h1 | h1
    · have h2 := pr_pow hp _ h1
      exact ⟨x, List.mem_cons_self .., (pr_eq (hl x (List.mem_cons_self ..)) (primeB_two hp) h2).symm⟩
    · obtain ⟨y, hy, e⟩ := pr_prodP hp l (fun y hy => hl y (List.mem_cons_of_mem _ hy)) h1
      exact ⟨y, List.mem_cons_of_mem _ hy, e⟩
theorem str_ofp {p : Nat} (hp : 2 ≤ p) {s : Nat} (hs : 1 ≤ s) (h : s % p ≠ 0) : ∀ k, strK p (p ^ k * s) = k ∧ strR p (p ^ k * s) = s
  | 0 => by rw [Nat.pow_zero, Nat.one_mul]; exact str_no hs h
  | k + 1 => by
    obtain ⟨a, b⟩ := str_ofp hp hs h k
    have e : p ^ (k + 1) * s = p * (p ^ k * s) := by rw [Nat.pow_succ, Nat.mul_comm (p ^ k) p, Nat.mul_assoc]
    have hpos : 1 ≤ p ^ k * s := Nat.mul_pos (Nat.pow_pos (by omega)) hs
    have hm : p ^ (k + 1) * s % p = 0 := by rw [e]; exact Nat.mul_mod_right _ _
    obtain ⟨c, d⟩ := str_yes hp (by rw [e]; exact Nat.mul_pos (by omega) hpos) hm
    rw [c, d, e, Nat.mul_div_cancel_left _ (by omega), a, b]
    exact ⟨rfl, rfl⟩
/-- A number has no other factors than these. -/
theorem facs_of : ∀ (l : List (Nat × Nat)), (∀ x ∈ l, primeB x.1 = true ∧ 1 ≤ x.2) → (l.Pairwise fun x y => x.1 < y.1) → facs (prodP l) = l
  | [], _, _ => facs_no (by show ¬ 2 ≤ 1; omega)
  | (p, e) :: l, h, hp => by
    obtain ⟨hx, hl⟩ := List.pairwise_cons.1 hp
    obtain ⟨h1, h2⟩ := h (p, e) (List.mem_cons_self ..)
    have h1 : primeB p = true := h1
    have h2 : 1 ≤ e := h2
    have ht : ∀ x ∈ l, primeB x.1 = true ∧ 1 ≤ x.2 := fun y hy => h y (List.mem_cons_of_mem _ hy)
    have ih := facs_of l ht hl
    have p2 := primeB_two h1
    have hpos : 1 ≤ prodP l := prodP_pos l fun x hx => primeB_two (ht x hx).1
    have hno : prodP l % p ≠ 0 := fun h0 => by
      obtain ⟨y, hy, ey⟩ := pr_prodP h1 l (fun x hx => (ht x hx).1) (Nat.dvd_of_mod_eq_zero h0)
      have : p < y.1 := hx y hy
      omega
    obtain ⟨a, b⟩ := str_ofp p2 hpos hno e
    rw [prodP_cons]
    show facs (p ^ e * prodP l) = _
    have hd : p ∣ p ^ e * prodP l := Nat.dvd_trans (by
      obtain ⟨k, rfl⟩ : ∃ k, e = k + 1 := ⟨e - 1, by omega⟩
      rw [Nat.pow_succ]
      exact Nat.dvd_mul_left _ _) (Nat.dvd_mul_right _ _)
    have hN1 : 1 ≤ p ^ e * prodP l := Nat.mul_pos (Nat.pow_pos (by omega)) hpos
    have hN2 : 2 ≤ p ^ e * prodP l := by have := Nat.le_of_dvd hN1 hd; omega
    have hle := leastF_min hN1 p2 (Nat.mod_eq_zero_of_dvd hd)
    have hpr := leastF_pr hN2
    have hdv := Nat.dvd_of_mod_eq_zero (leastF_dvd (p ^ e * prodP l))
    have heq : leastF (p ^ e * prodP l) = p := by
      rcases pr_mul hpr hdv with h3 | h3
      · exact pr_eq h1 (primeB_two hpr) (pr_pow hpr _ h3)
      · obtain ⟨y, hy, ey⟩ := pr_prodP hpr l (fun x hx => (ht x hx).1) h3
        have : p < y.1 := hx y hy
        omega
    rw [facs_yes hN2, heq, a, b, ih]

/-! The same of lists of lists. -/
def toNN (ps : List (List Int)) : List (Nat × Nat) := ps.map fun x => ((ivL x 0).toNat, (ivL x 1).toNat)
theorem toNN_len (ps : List (List Int)) : (toNN ps).length = ps.length := List.length_map _
theorem toNN_at {ps : List (List Int)} {i : Nat} (h : i < ps.length) : (toNN ps)[i]'(by rw [toNN_len]; exact h) = ((pA ps i).toNat, (eA ps i).toNat) := by
  simp [toNN, pA, eA, psL, List.getD, List.getElem?_eq_getElem h]
theorem prodP_snoc (l : List (Nat × Nat)) (x : Nat × Nat) : prodP (l ++ [x]) = prodP l * x.1 ^ x.2 := by
  induction l with
  | nil => simp [prodP]
  | cons y l ih => rw [List.cons_append, prodP_cons, prodP_cons, ih, Nat.mul_assoc]
theorem prodE_take (ps : List (List Int)) : ∀ i, i ≤ ps.length → prodE ps i = prodP ((toNN ps).take i)
  | 0, _ => rfl
  | i + 1, h => by
    have hi : i < (toNN ps).length := by rw [toNN_len]; omega
    rw [prodE, prodE_take ps i (by omega), List.take_succ_eq_append_getElem hi, prodP_snoc, toNN_at (by omega)]
theorem prodE_all (ps : List (List Int)) : prodE ps ps.length = prodP (toNN ps) := by
  rw [prodE_take ps _ (Nat.le_refl _), List.take_of_length_le (by rw [toNN_len]; exact Nat.le_refl _)]
theorem pA_rise {ps : List (List Int)} (h : ∀ i, i < ps.length → sB ps i = true) : ∀ (d i : Nat), i + d + 1 < ps.length → pA ps i < pA ps (i + d + 1)
  | 0, i, hi => (sB_true.1 (h (i + 1) hi)).2.2.2.2
  | d + 1, i, hi => by
    have a := pA_rise h d i (by omega)
    have b : pA ps (i + d + 1) < pA ps (i + d + 1 + 1) := (sB_true.1 (h (i + d + 1 + 1) (by omega))).2.2.2.2
    have e : i + (d + 1) + 1 = i + d + 1 + 1 := by omega
    rw [e]
    omega
theorem two_list {x : List Int} (h : x.length = 2) : x = [ivL x 0, ivL x 1] := by
  match x, h with
  | [a, b], _ => rfl
/-- What NumberOfFactors takes is what FactorsOf tells of its number. -/
theorem fl_of {ps : List (List Int)} (h : okN ps = true) : flL (prodE ps ps.length) = ps ∧ 1 ≤ prodE ps ps.length ∧ prodE ps ps.length ≤ 1000000000 := by
  rw [okN, Bool.and_eq_true, decide_eq_true_eq, strB_true] at h
  obtain ⟨⟨h1, h2⟩, h3⟩ := h
  refine ⟨?_, prodE_pos _ h2, h3⟩
  rw [prodE_all, flL, facs_of (toNN ps) ?_ ?_]
  · rw [toNN, List.map_map]
    conv => rhs; rw [← List.map_id ps]
    refine List.map_congr_left fun x hx => ?_
    obtain ⟨i, hi, rfl⟩ := List.getElem_of_mem hx
    have hs := sB_true.1 (h2 i hi)
    have e : psL ps i = ps[i] := by rw [psL, List.getD, List.getElem?_eq_getElem hi]; rfl
    rw [pA, eA, e] at hs
    have hp := primeB_two hs.2.1
    rw [id]
    conv => rhs; rw [two_list hs.1]
    show [((ivL ps[i] 0).toNat : Int), ((ivL ps[i] 1).toNat : Int)] = _
    rw [Int.toNat_of_nonneg (by omega), Int.toNat_of_nonneg (by omega)]
  · intro x hx
    obtain ⟨i, hi, rfl⟩ := List.getElem_of_mem hx
    rw [toNN_len] at hi
    rw [toNN_at hi]
    have hs := sB_true.1 (h2 i hi)
    exact ⟨hs.2.1, by show 1 ≤ (eA ps i).toNat; omega⟩
  · rw [List.pairwise_iff_getElem]
    intro i j hi hj hij
    rw [toNN_len] at hi hj
    rw [toNN_at hi, toNN_at hj]
    show (pA ps i).toNat < (pA ps j).toNat
    have h5 := pA_rise h2 (j - i - 1) i (by omega)
    rw [show i + (j - i - 1) + 1 = j by omega] at h5
    have := sB_two (h2 i hi)
    omega
theorem flL_at {n i : Nat} (h : i < (facs n).length) : pA (flL n) i = ((facs n)[i].1 : Int) ∧ eA (flL n) i = ((facs n)[i].2 : Int) ∧ psL (flL n) i = [((facs n)[i].1 : Int), ((facs n)[i].2 : Int)] := by
  have e : psL (flL n) i = [((facs n)[i].1 : Int), ((facs n)[i].2 : Int)] := by simp [flL, psL, List.getD, h]
  exact ⟨by rw [pA, e]; rfl, by rw [eA, e]; rfl, e⟩
theorem toNN_fl (n : Nat) : toNN (flL n) = facs n := by
  rw [toNN, flL, List.map_map]
  conv => rhs; rw [← List.map_id (facs n)]
  exact List.map_congr_left fun x _ => rfl
theorem flL_len' (n : Nat) : (flL n).length = (facs n).length := List.length_map _
/-- The factors of a number are taken back to it. -/
theorem fl_back {n : Nat} (h1 : 1 ≤ n) (h9 : n ≤ 1000000000) (h30 : (facs n).length ≤ 29) : okN (flL n) = true ∧ nV (flL n) = (n : Int) := by
  have hp : prodE (flL n) (flL n).length = n := by rw [prodE_all, toNN_fl, facs_prod n h1]
  have hs : ∀ j, j < (flL n).length → sB (flL n) j = true := fun j hj => by
    rw [flL_len'] at hj
    obtain ⟨a, b, c⟩ := flL_at hj
    have hf := facs_lt n h1 _ (List.getElem_mem hj)
    have hr := facs_pr n _ (List.getElem_mem hj)
    refine sB_true.2 ⟨by rw [c]; rfl, by rw [a, Int.toNat_natCast]; exact hr, by rw [a]; omega, by rw [b]; omega, ?_⟩
    rw [a]
    cases j with
    | zero => rw [befA]; omega
    | succ i =>
      rw [befA, (flL_at (n := n) (i := i) (by omega)).1]
      have := (List.pairwise_iff_getElem.1 (facs_inc n)) i (i + 1) (by omega) hj (by omega)
      omega
  have hok := okN_yes (ps := flL n) (by rw [flL_len']; omega) hs (by rw [hp]; exact h9)
  exact ⟨hok, by rw [nV_yes hok, hp]⟩
theorem rad_dvd {n : Nat} (h1 : 1 ≤ n) : n % prodL (fks n) = 0 := by
  have : ∀ (l : List (Nat × Nat)), (∀ x ∈ l, 1 ≤ x.2) → prodL (l.map Prod.fst) ∣ prodP l := fun l => by
    induction l with
    | nil => intro _; exact Nat.dvd_refl _
    | cons x l ih =>
      intro h
      rw [List.map_cons, prodL, prodP_cons]
      refine Nat.mul_dvd_mul ?_ (ih fun y hy => h y (List.mem_cons_of_mem _ hy))
      have := h x (List.mem_cons_self ..)
      obtain ⟨k, hk⟩ : ∃ k, x.2 = k + 1 := ⟨x.2 - 1, by omega⟩
      rw [hk, Nat.pow_succ]
      exact Nat.dvd_mul_left _ _
  have h := this (facs n) fun x hx => (facs_lt n h1 x hx).2.1
  rw [facs_prod n h1] at h
  exact Nat.mod_eq_zero_of_dvd h
/-- A prime has one factor, once; another number has not. -/
theorem pr_one {n : Nat} (h1 : 1 ≤ n) : primeB n = (decide ((flL n).length = 1) && decide (eA (flL n) 0 = 1)) := by
  rw [flL_len']
  cases h : primeB n with
  | true =>
    have h2 := primeB_two h
    have hf : facs n = [(n, 1)] := by
      have := facs_of [(n, 1)] (fun x hx => by rw [List.mem_singleton] at hx; subst hx; exact ⟨h, Nat.le_refl _⟩) (List.pairwise_singleton _ _)
      rw [prodP_cons] at this
      simpa [prodP] using this
    have e : eA (flL n) 0 = 1 := by rw [(flL_at (n := n) (i := 0) (by rw [hf]; exact Nat.zero_lt_one)).2.1]; simp [hf]
    rw [hf, e]; rfl
  | false =>
    symm
    rw [← Bool.not_eq_true, Bool.and_eq_true, decide_eq_true_eq, decide_eq_true_eq]
    rintro ⟨a, b⟩
    have h0 : 0 < (facs n).length := by omega
    rw [(flL_at h0).2.1] at b
    have hp := facs_prod n h1
    obtain ⟨x, hx⟩ := List.length_eq_one_iff.1 a
    have hpr := facs_pr n x (by rw [hx]; exact List.mem_singleton_self _)
    have hb : x.2 = 1 := by simp [hx] at b; omega
    rw [hx, prodP_cons, hb] at hp
    have : x.1 = n := by simpa [prodP] using hp
    rw [this, h] at hpr
    cases hpr
theorem least_first {n : Nat} (h : 2 ≤ n) : pA (flL n) 0 = (leastF n : Int) ∧ 0 < (flL n).length := by
  have hl : 0 < (facs n).length := by rw [facs_yes h]; exact Nat.succ_pos _
  refine ⟨?_, by rw [flL_len']; exact hl⟩
  rw [(flL_at hl).1]
  simp [facs_yes h]
/-- n is smooth up to its last prime alone. -/
theorem sm_last {n i : Nat} (h : i < (flL n).length) : smB n (pA (flL n) i) = decide (i + 1 = (flL n).length) := by
  rw [flL_len'] at h ⊢
  rw [(flL_at h).1]
  by_cases hi : i + 1 = (facs n).length
  · rw [decide_eq_true hi]
    refine smB_yes fun p hp => ?_
    obtain ⟨x, hx, rfl⟩ := List.mem_map.1 hp
    obtain ⟨j, hj, rfl⟩ := List.getElem_of_mem hx
    by_cases hji : j = i
    · subst hji; exact Int.le_refl _
    · have := (List.pairwise_iff_getElem.1 (facs_inc n)) j i hj h (by omega)
      omega
  · rw [decide_eq_false hi]
    have hl : i + 1 < (facs n).length := by omega
    have := (List.pairwise_iff_getElem.1 (facs_inc n)) i (i + 1) h hl (by omega)
    exact smB_no (p := (facs n)[i + 1].1) (List.mem_map.2 ⟨_, List.getElem_mem hl, rfl⟩) (by omega)
/-- The primes of the first k factors, one times the other. -/
def radP (n k : Nat) : Nat := prodL ((fks n).take k)
theorem radP_zero (n : Nat) : radP n 0 = 1 := rfl
theorem radP_succ {n i : Nat} (h : i < (flL n).length) : ((radP n (i + 1) : Nat) : Int) = (radP n i : Int) * pA (flL n) i := by
  rw [flL_len'] at h
  have h2 : i < (fks n).length := by rw [fks, List.length_map]; exact h
  rw [(flL_at h).1, radP, List.take_succ_eq_append_getElem h2, prodL_snoc, radP]
  simp [fks]
theorem radP_all (n : Nat) : radP n (flL n).length = prodL (fks n) := by
  rw [radP, List.take_of_length_le]
  rw [flL_len', fks, List.length_map]
  exact Nat.le_refl _
theorem radP_le {n : Nat} (h1 : 1 ≤ n) : ∀ (d k : Nat), k + d = (flL n).length → radP n k ≤ prodL (fks n) ∧ 1 ≤ radP n k
  | 0, k, h => by
    rw [← radP_all, ← h]
    exact ⟨Nat.le_refl _, prodL_pos _ fun x hx => by have := fks_pos h1 x (List.mem_of_mem_take hx); omega⟩
  | d + 1, k, h => by
    have h2 := (radP_le h1 d (k + 1) (by omega)).1
    have h3 := radP_succ (n := n) (i := k) (by omega)
    have hk : k < (facs n).length := by rw [← flL_len']; omega
    have h4 := (facs_lt n h1 _ (List.getElem_mem hk)).1
    rw [(flL_at hk).1] at h3
    have h5 : radP n (k + 1) = radP n k * (facs n)[k].1 := by exact_mod_cast h3
    have h6 := Nat.le_mul_of_pos_right (radP n k) (show 0 < (facs n)[k].1 by omega)
    exact ⟨by omega, prodL_pos _ fun x hx => by have := fks_pos h1 x (List.mem_of_mem_take hx); omega⟩

end Go.Proofs.Ytehppjdiegoeeaa
