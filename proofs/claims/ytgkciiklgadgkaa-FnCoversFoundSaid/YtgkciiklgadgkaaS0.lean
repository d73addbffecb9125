import Derived.Test.YtgkciiklgadgkaaKP
namespace Go.Proofs.Ytgkciiklgadgkaa
open Go.RowKit
set_option linter.unusedVariables false
set_option linter.unusedSimpArgs false

theorem left_iff (rs : List (Int × Int)) (n : Int) : leftF rs n = true ↔ ∀ r ∈ rs, crossF r.1 r.2 n = false := by
  rw [leftF, decide_eq_true_eq, fIdx, List.findIdx_eq_length]
theorem lcm_right (p e : Int) : e ∣ lcmF p e := Int.dvd_mul_left _ _
theorem lcm_left (p e : Int) (hp : 1 ≤ p) (he : 1 ≤ e) : p ∣ lcmF p e := by
  obtain ⟨p, rfl⟩ := Int.eq_ofNat_of_zero_le (show 0 ≤ p by omega)
  obtain ⟨e, rfl⟩ := Int.eq_ofNat_of_zero_le (show 0 ≤ e by omega)
  have e1 : lcmF (p : Int) (e : Int) = (Nat.lcm p e : Int) := by
    unfold lcmF gcdF
    rw [Int.toNat_natCast, Int.toNat_natCast, ← Int.natCast_ediv, ← Int.natCast_mul]
    congr 1
    unfold Nat.lcm
    rw [Nat.mul_comm p e, Nat.mul_div_assoc _ (Nat.gcd_dvd_left p e), Nat.mul_comm]
  rw [e1]
  exact Int.natCast_dvd_natCast.2 (Nat.dvd_lcm_left p e)
theorem perGo_all : ∀ (rs : List (Int × Int)) (p : Int), 1 ≤ p → (∀ r ∈ rs, 1 ≤ r.1) → perGo rs p ≠ 0 → p ∣ perGo rs p ∧ ∀ r ∈ rs, r.1 ∣ perGo rs p
  | [], p, _, _, _ => ⟨Int.dvd_refl p, fun r h => by cases h⟩
  | r :: rs, p, hp, hr, h => by
    have he := hr r (by simp)
    rw [perGo] at h ⊢
    by_cases hb : 100000 < lcmF p r.1
    · rw [if_pos hb] at h; exact absurd rfl h
    · rw [if_neg hb] at h ⊢
      obtain ⟨a, b⟩ := perGo_all rs _ (lcmF_pos p r.1 hp he) (fun x hx => hr x (by simp [hx])) h
      refine ⟨Int.dvd_trans (lcm_left p r.1 hp he) a, fun x hx => ?_⟩
      rcases List.mem_cons.1 hx with rfl | hx
      · exact Int.dvd_trans (lcm_right p _) a
      · exact b x hx
theorem per_dvd {rs : List (Int × Int)} (hg : goodL rs = true) (hp : perF rs ≠ 0) : ∀ r ∈ rs, r.1 ∣ perF rs :=
  (perGo_all rs 1 (by omega) (fun r hr => by have := good_mem hg r hr; omega) hp).2
theorem cross_add {e r n P : Int} (h : e ∣ P) (k : Int) : crossF e r (n + P * k) = crossF e r n := by
  obtain ⟨q, rfl⟩ := h
  have e1 : restF (n + e * q * k) e = restF n e := by
    unfold restF
    rw [Int.mul_assoc, Int.add_mul_emod_self_left]
  simp only [crossF, e1]
theorem left_add {rs : List (Int × Int)} {P : Int} (h : ∀ r ∈ rs, r.1 ∣ P) (n k : Int) : leftF rs (n + P * k) = leftF rs n := by
  rw [Bool.eq_iff_iff, left_iff, left_iff]
  constructor
  · intro h1 r hr; rw [← cross_add (h r hr) k]; exact h1 r hr
  · intro h1 r hr; rw [cross_add (h r hr) k]; exact h1 r hr

/-- Whether rules are a wheel, and its period. -/
def anyLeft (rs : List (Int × Int)) (P : Nat) : Bool := (List.range P).any fun n => leftF rs (n : Int)
theorem anyLeft_iff {rs : List (Int × Int)} {P : Nat} : anyLeft rs P = true ↔ ∃ n, n < P ∧ leftF rs (n : Int) = true := by simp [anyLeft]
def whB (rs : List (Int × Int)) : Bool := goodL rs && decide (1 ≤ perF rs ∧ perF rs ≤ 5000) && anyLeft rs (perF rs).toNat
def whP (rs : List (Int × Int)) : Nat := if whB rs then (perF rs).toNat else 0
theorem whP_no {rs : List (Int × Int)} (h : whB rs = false) : whP rs = 0 := by rw [whP, h]; rfl
theorem whP_yes {rs : List (Int × Int)} (h : whB rs = true) : whP rs = (perF rs).toNat := by rw [whP, h]; rfl
theorem whB_parts {rs : List (Int × Int)} (h : whB rs = true) : goodL rs = true ∧ 1 ≤ perF rs ∧ perF rs ≤ 5000 ∧ perF rs = (whP rs : Int) ∧ 1 ≤ whP rs ∧ whP rs ≤ 5000 ∧ ∃ n, n < whP rs ∧ leftF rs (n : Int) = true := by
  have h2 := whP_yes h
  have h' := h
  rw [whB, Bool.and_eq_true, Bool.and_eq_true, decide_eq_true_eq] at h'
  obtain ⟨⟨a, b, c⟩, d⟩ := h'
  rw [anyLeft_iff, ← h2] at d
  exact ⟨a, b, c, by omega, by omega, by omega, d⟩
theorem wh_per {rs : List (Int × Int)} (h : whB rs = true) (n k : Int) : leftF rs (n + (whP rs : Int) * k) = leftF rs n := by
  obtain ⟨hg, p1, _, hp, _⟩ := whB_parts h
  rw [← hp]
  exact left_add (per_dvd hg (by omega)) n k
theorem wh_per1 {rs : List (Int × Int)} (h : whB rs = true) (n : Int) : leftF rs (n + (whP rs : Int)) = leftF rs n := by
  have := wh_per h n 1
  rwa [Int.mul_one] at this
theorem wh_mod {rs : List (Int × Int)} (h : whB rs = true) (n : Int) : leftF rs (n % (whP rs : Int)) = leftF rs n := by
  have := wh_per h (n % (whP rs : Int)) (n / (whP rs : Int))
  rw [← this, Int.emod_add_mul_ediv]
/-- From any number on, one of as many as the period is left. -/
theorem wh_next {rs : List (Int × Int)} (h : whB rs = true) (n : Int) : ∃ d : Nat, d < whP rs ∧ leftF rs (n + (d : Int)) = true := by
  obtain ⟨_, _, _, _, p1, _, m, hm, hl⟩ := whB_parts h
  have h0 := Int.emod_nonneg ((m : Int) - n) (b := (whP rs : Int)) (by omega)
  have h1 := Int.emod_lt_of_pos ((m : Int) - n) (b := (whP rs : Int)) (by omega)
  refine ⟨(((m : Int) - n) % (whP rs : Int)).toNat, by omega, ?_⟩
  rw [Int.toNat_of_nonneg h0, ← wh_mod h, Int.add_emod_emod, show n + ((m : Int) - n) = (m : Int) by omega, wh_mod h]
  exact hl
/-- The spokes. -/
def spk (rs : List (Int × Int)) : List Int := upF (leftF rs) (whP rs)
theorem spk_len (rs : List (Int × Int)) : (spk rs).length ≤ whP rs := upF_len _ _
theorem spk_mem {rs : List (Int × Int)} {x : Int} : x ∈ spk rs ↔ 1 ≤ x ∧ x ≤ (whP rs : Int) ∧ leftF rs x = true := by
  simp only [spk, upF, List.mem_filter, List.mem_map, List.mem_range]
  constructor
  · rintro ⟨⟨i, h1, rfl⟩, h2⟩; exact ⟨by omega, by omega, h2⟩
  · rintro ⟨h1, h2, h3⟩; exact ⟨⟨(x - 1).toNat, by omega, by omega⟩, h3⟩
theorem spk_pos {rs : List (Int × Int)} (h : whB rs = true) : 0 < (spk rs).length := by
  obtain ⟨d, hd, hl⟩ := wh_next h 1
  exact List.length_pos_of_mem (spk_mem.2 ⟨by omega, by omega, hl⟩)
theorem ivL_mem {xs : List Int} {k : Nat} (h : k < xs.length) : ivL xs k ∈ xs := by
  rw [show ivL xs k = xs[k] by simp [ivL, h]]
  exact List.getElem_mem _
theorem spk_at {rs : List (Int × Int)} {k : Nat} (h : k < (spk rs).length) : 1 ≤ ivL (spk rs) k ∧ ivL (spk rs) k ≤ (whP rs : Int) ∧ leftF rs (ivL (spk rs) k) = true := spk_mem.1 (ivL_mem h)
/-- The number behind spoke i. -/
def nxS (rs : List (Int × Int)) (i : Nat) : Int := if i + 1 < (spk rs).length then ivL (spk rs) (i + 1) else ivL (spk rs) 0 + (whP rs : Int)
def stI (rs : List (Int × Int)) (i : Nat) : Int := nxS rs i - ivL (spk rs) i
/-- The first k steps. -/
def stL (rs : List (Int × Int)) (k : Nat) : List Int := (List.range k).map (stI rs)
theorem stL_succ (rs : List (Int × Int)) (k : Nat) : stL rs (k + 1) = stL rs k ++ [stI rs k] := by simp [stL, List.range_succ]
theorem stL_len (rs : List (Int × Int)) (k : Nat) : (stL rs k).length = k := by simp [stL]
theorem stL_at {rs : List (Int × Int)} {k i : Nat} (h : i < k) : ivL (stL rs k) i = stI rs i := by simp [stL, ivL, h]
def stA (rs : List (Int × Int)) : List Int := stL rs (spk rs).length
theorem nxS_bound {rs : List (Int × Int)} (h : whB rs = true) (i : Nat) : 1 ≤ nxS rs i ∧ nxS rs i ≤ 10000 := by
  have h0 := spk_pos h
  have hp := (whB_parts h).2.2.2.2.2.1
  rw [nxS]
  split
  · rename_i h1
    have := spk_at h1
    omega
  · have := spk_at h0
    omega
theorem stI_bound {rs : List (Int × Int)} (h : whB rs = true) {i : Nat} (hi : i < (spk rs).length) : -5000 ≤ stI rs i ∧ stI rs i ≤ 10000 := by
  have h1 := nxS_bound h i
  have h2 := spk_at hi
  have hp := (whB_parts h).2.2.2.2.2.1
  rw [stI]
  omega

end Go.Proofs.Ytgkciiklgadgkaa
