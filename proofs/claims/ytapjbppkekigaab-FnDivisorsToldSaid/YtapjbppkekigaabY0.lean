import Derived.Test.YtapjbppkekigaabU0
import Derived.Test.YtapjbppkekigaabG0
namespace Go.Proofs.Ytapjbppkekigaab
open Go.RowKit
set_option linter.unusedVariables false
set_option linter.unusedSimpArgs false

/- Divisors. -/
theorem strict_same : ∀ {xs ys : List Int}, xs.Pairwise (· < ·) → ys.Pairwise (· < ·) → (∀ z, z ∈ xs ↔ z ∈ ys) → xs = ys
  | [], [], _, _, _ => rfl
  | [], y :: ys, _, _, h => absurd ((h y).2 (List.mem_cons_self ..)) (by simp)
  | x :: xs, [], _, _, h => absurd ((h x).1 (List.mem_cons_self ..)) (by simp)
  | x :: xs, y :: ys, hx, hy, h => by
    obtain ⟨hx1, hx2⟩ := List.pairwise_cons.1 hx
    obtain ⟨hy1, hy2⟩ := List.pairwise_cons.1 hy
    have e : x = y := by
      rcases List.mem_cons.1 ((h x).1 (List.mem_cons_self ..)) with e | e
      · exact e
      · rcases List.mem_cons.1 ((h y).2 (List.mem_cons_self ..)) with e2 | e2
        · exact e2.symm
        · have := hy1 x e
          have := hx1 y e2
          omega
    subst e
    rw [strict_same hx2 hy2 fun z => ?_]
    constructor
    · intro hz
      rcases List.mem_cons.1 ((h z).1 (List.mem_cons_of_mem _ hz)) with e | e
      · have := hx1 z hz; omega
      · exact e
    · intro hz
      rcases List.mem_cons.1 ((h z).2 (List.mem_cons_of_mem _ hz)) with e | e
      · have := hy1 z hz; omega
      · exact e
theorem mem_flF {p : Nat → Bool} {a k : Nat} {z : Int} : z ∈ flF p a k ↔ ∃ i, i < k ∧ p (a + i) = true ∧ z = ((a + i : Nat) : Int) := by
  rw [flF, List.mem_map]
  constructor
  · rintro ⟨i, hi, rfl⟩
    obtain ⟨h1, h2⟩ := List.mem_filter.1 hi
    exact ⟨i, List.mem_range.1 h1, h2, rfl⟩
  · rintro ⟨i, h1, h2, rfl⟩
    exact ⟨i, List.mem_filter.2 ⟨List.mem_range.2 h1, h2⟩, rfl⟩
theorem flF_strict (p : Nat → Bool) (a : Nat) : ∀ k, (flF p a k).Pairwise (· < ·)
  | 0 => by rw [flF_zero]; exact List.Pairwise.nil
  | k + 1 => by
    have ih := flF_strict p a k
    cases h : p (a + k) with
    | false => rw [flF_no h]; exact ih
    | true =>
      rw [flF_yes h, List.pairwise_append]
      refine ⟨ih, List.pairwise_singleton .., fun x hx y hy => ?_⟩
      obtain ⟨i, hi, _, rfl⟩ := mem_flF.1 hx
      rw [List.mem_singleton.1 hy]
      omega
def dvP (n d : Nat) : Bool := decide (n % d = 0)
/-- The divisors, rising. -/
def dvD (n : Nat) : List Int := flF (dvP n) 1 n
/-- The great divisors, found from the small ones. -/
def hiF (n : Nat) : Nat → List Int
  | 0 => []
  | k + 1 => (if n % (k + 1) = 0 ∧ (k + 1) * (k + 1) < n then [((n / (k + 1) : Nat) : Int)] else []) ++ hiF n k
theorem hiF_yes {n k : Nat} (h : n % (k + 1) = 0) (h2 : (k + 1) * (k + 1) < n) : hiF n (k + 1) = ((n / (k + 1) : Nat) : Int) :: hiF n k := by rw [hiF, if_pos ⟨h, h2⟩]; rfl
theorem hiF_no {n k : Nat} (h : ¬ (n % (k + 1) = 0 ∧ (k + 1) * (k + 1) < n)) : hiF n (k + 1) = hiF n k := by rw [hiF, if_neg h]; rfl
theorem hiF_len (n : Nat) : ∀ k, (hiF n k).length ≤ k
  | 0 => Nat.le_refl _
  | k + 1 => by
    have := hiF_len n k
    rw [hiF, List.length_append]
    split <;> simp <;> omega
theorem mem_hiF {n : Nat} {z : Int} : ∀ {k : Nat}, z ∈ hiF n k ↔ ∃ d, 1 ≤ d ∧ d ≤ k ∧ n % d = 0 ∧ d * d < n ∧ z = ((n / d : Nat) : Int)
  | 0 => by
    constructor
    · intro h; cases h
    · rintro ⟨d, h1, h2, _⟩; omega
  | k + 1 => by
    rw [hiF, List.mem_append, mem_hiF (k := k)]
    constructor
    · rintro (h | ⟨d, h1, h2, h3⟩)
      · split at h
        · next hc =>
          exact ⟨k + 1, by omega, Nat.le_refl _, hc.1, hc.2, List.mem_singleton.1 h⟩
        · cases h
      · exact ⟨d, h1, by omega, h3⟩
    · rintro ⟨d, h1, h2, h3, h4, h5⟩
      rcases Nat.lt_or_ge d (k + 1) with h6 | h6
      · exact .inr ⟨d, h1, by omega, h3, h4, h5⟩
      · have : d = k + 1 := by omega
        subst this
        left
        rw [if_pos ⟨h3, h4⟩]
        exact List.mem_singleton.2 h5
theorem div_fall {n d e : Nat} (h1 : 1 ≤ d) (hde : d < e) (hn : 1 ≤ n) (hd : n % d = 0) (he : n % e = 0) : n / e < n / d := by
  have a := Nat.div_add_mod n d
  have b := Nat.div_add_mod n e
  rw [hd, Nat.add_zero] at a
  rw [he, Nat.add_zero] at b
  rcases Nat.lt_or_ge (n / e) (n / d) with h | h
  · exact h
  · have h2 := Nat.mul_le_mul (Nat.le_of_lt hde) h
    have h3 : 1 ≤ n / e := by
      rcases Nat.eq_zero_or_pos (n / e) with h4 | h4
      · rw [h4] at b; omega
      · exact h4
    have h4 : d * (n / e) < e * (n / e) := Nat.mul_lt_mul_of_pos_right hde h3
    have h5 := Nat.mul_le_mul (Nat.le_refl d) h
    omega
theorem hiF_strict {n : Nat} (hn : 1 ≤ n) : ∀ k, (hiF n k).Pairwise (· < ·)
  | 0 => List.Pairwise.nil
  | k + 1 => by
    have ih := hiF_strict hn k
    by_cases h : n % (k + 1) = 0 ∧ (k + 1) * (k + 1) < n
    · rw [hiF_yes h.1 h.2, List.pairwise_cons]
      refine ⟨fun z hz => ?_, ih⟩
      obtain ⟨d, h1, h2, h3, h4, rfl⟩ := mem_hiF.1 hz
      have := div_fall h1 (show d < k + 1 by omega) hn h3 h.1
      omega
    · rw [hiF_no h]
      exact ih
theorem dvD_split {n : Nat} (hn : 1 ≤ n) : flF (dvP n) 1 (rtF n) ++ hiF n (rtF n) = dvD n := by
  obtain ⟨r1, r2⟩ := rtF_parts n
  generalize rtF n = r at r1 r2
  have big : ∀ d, 1 ≤ d → d ≤ r → n % d = 0 → d * d < n → r < n / d := by
    intro d h1 h2 h3 h4
    have a := Nat.div_add_mod n d
    rw [h3, Nat.add_zero] at a
    rcases Nat.lt_or_ge r (n / d) with h | h
    · exact h
    · have h5 := Nat.mul_le_mul h2 h
      have h6 : d * (n / d) ≤ d * r := Nat.mul_le_mul (Nat.le_refl d) h
      have h7 : d * r ≤ r * r := Nat.mul_le_mul h2 (Nat.le_refl r)
      have h8 : d * r = r * r := by omega
      have hr : 0 < r := by omega
      have h9 : d = r := Nat.eq_of_mul_eq_mul_right hr h8
      subst h9
      omega
  refine strict_same ?_ (flF_strict _ _ _) fun z => ?_
  · rw [List.pairwise_append]
    refine ⟨flF_strict _ _ _, hiF_strict hn _, fun x hx y hy => ?_⟩
    obtain ⟨i, hi, _, rfl⟩ := mem_flF.1 hx
    obtain ⟨d, h1, h2, h3, h4, rfl⟩ := mem_hiF.1 hy
    have := big d h1 h2 h3 h4
    omega
  · rw [List.mem_append, mem_flF, mem_hiF, dvD, mem_flF]
    constructor
    · rintro (⟨i, h1, h2, rfl⟩ | ⟨d, h1, h2, h3, h4, rfl⟩)
      · refine ⟨i, ?_, h2, rfl⟩
        rcases Nat.eq_zero_or_pos i with e | e
        · omega
        · have : r ≤ r * r := Nat.le_mul_of_pos_right r (by omega)
          omega
      · have a := Nat.div_add_mod n d
        rw [h3, Nat.add_zero] at a
        have h5 := big d h1 h2 h3 h4
        have h6 := Nat.div_le_self n d
        refine ⟨n / d - 1, by omega, ?_, by congr 1; omega⟩
        rw [show 1 + (n / d - 1) = n / d by omega, dvP, decide_eq_true_eq]
        have h7 := Nat.mul_mod_left d (n / d)
        rw [a] at h7
        exact h7
    · rintro ⟨i, h1, h2, rfl⟩
      rcases Nat.lt_or_ge i r with h | h
      · exact .inl ⟨i, h, h2, rfl⟩
      · right
        rw [dvP, decide_eq_true_eq] at h2
        have a := Nat.div_add_mod n (1 + i)
        rw [h2, Nat.add_zero] at a
        have hq : 1 ≤ n / (1 + i) := by
          rcases Nat.eq_zero_or_pos (n / (1 + i)) with e | e
          · rw [e] at a; omega
          · exact e
        have hqr : n / (1 + i) ≤ r := by
          rcases Nat.lt_or_ge r (n / (1 + i)) with h5 | h5
          · have := Nat.mul_le_mul (show r + 1 ≤ 1 + i by omega) (show r + 1 ≤ n / (1 + i) by omega)
            omega
          · exact h5
        refine ⟨n / (1 + i), hq, hqr, ?_, ?_, ?_⟩
        · conv => lhs; rw [← a]
          rw [Nat.mul_div_cancel_left _ (by omega)]
          exact Nat.mul_mod_left _ _
        · have h6 : n / (1 + i) * (n / (1 + i)) < (1 + i) * (n / (1 + i)) := Nat.mul_lt_mul_of_pos_right (by omega) hq
          omega
        · congr 1
          exact (Nat.div_eq_of_eq_mul_right (by omega) (by rw [Nat.mul_comm]; exact a.symm)).symm

end Go.Proofs.Ytapjbppkekigaab
