import Derived.Test.YtaapfapejekkfaaS7
import Derived.Lib.SlicesSearch
import Derived.Lib.SlicesCompact
namespace Go.Proofs.Ytaapfapejekkfaa
open Go.RowKit
set_option linter.unusedVariables false
set_option linter.unusedSimpArgs false

theorem upF_add (p : Int → Bool) (a b : Nat) : upF p (a + b) = upF p a ++ (upF (fun n => p ((a : Int) + n)) b).map (fun n => (a : Int) + n) := by
  induction b with
  | zero => simp [upF]
  | succ b ih =>
    rw [← Nat.add_assoc, upF_succ, upF_succ (fun n => p ((a : Int) + n)) b, ih]
    have e : ((a + b : Nat) : Int) + 1 = (a : Int) + ((b : Int) + 1) := by omega
    rw [e]
    cases h : p ((a : Int) + ((b : Int) + 1)) <;> simp
theorem spk_two {rs : List (Int × Int)} (h : whB rs = true) : upF (leftF rs) (2 * whP rs) = spk rs ++ (spk rs).map (fun n => (whP rs : Int) + n) := by
  rw [Nat.two_mul, upF_add]
  have e : (fun n => leftF rs ((whP rs : Int) + n)) = leftF rs := by
    funext n
    rw [Int.add_comm, wh_per1 h]
  rw [e]
  rfl
theorem two_len {rs : List (Int × Int)} (h : whB rs = true) : (upF (leftF rs) (2 * whP rs)).length = 2 * (spk rs).length := by
  rw [spk_two h, List.length_append, List.length_map]; omega
theorem two_at {rs : List (Int × Int)} (h : whB rs = true) {k : Nat} (hk : k < (spk rs).length) : ivL (upF (leftF rs) (2 * whP rs)) k = ivL (spk rs) k := by
  rw [spk_two h]
  simp [ivL, List.getElem?_append, hk]
theorem two_next {rs : List (Int × Int)} (h : whB rs = true) {k : Nat} (hk : k < (spk rs).length) : ivL (upF (leftF rs) (2 * whP rs)) (k + 1) = nxS rs k := by
  rw [nxS]
  by_cases h1 : k + 1 < (spk rs).length
  · rw [if_pos h1, two_at h h1]
  · rw [if_neg h1, spk_two h]
    have e : k + 1 - (spk rs).length = 0 := by omega
    have h0 : 0 < (spk rs).length := by omega
    simp [ivL, List.getElem?_append, h1, e, h0]
    omega
theorem upF_lt (p : Int → Bool) (k : Nat) : (upF p k).Pairwise (· < ·) := by
  unfold upF
  apply List.Pairwise.filter
  rw [List.pairwise_map]
  exact List.pairwise_lt_range.imp (fun h => by omega)
theorem spk_sorted (rs : List (Int × Int)) : (spk rs).Pairwise (· < ·) := upF_lt _ _
theorem spk_lt {rs : List (Int × Int)} {i j : Nat} (hij : i < j) (hj : j < (spk rs).length) : ivL (spk rs) i < ivL (spk rs) j := by
  have := List.pairwise_iff_getElem.1 (spk_sorted rs) i j (by omega) hj hij
  simpa [ivL, hj, Nat.lt_trans hij hj] using this
theorem stI_pos {rs : List (Int × Int)} (h : whB rs = true) {i : Nat} (hi : i < (spk rs).length) : 1 ≤ stI rs i := by
  rw [stI, nxS]
  split
  · rename_i h1
    have := spk_lt (rs := rs) (i := i) (j := i + 1) (by omega) h1
    omega
  · have h1 := spk_at (rs := rs) (k := 0) (by omega)
    have h2 := spk_at hi
    omega
theorem stA_pos {rs : List (Int × Int)} (h : whB rs = true) {k : Nat} (hk : k < (stA rs).length) : 1 ≤ ivL (stA rs) k := by
  rw [stA_len] at hk
  rw [stA, stL_at hk]
  exact stI_pos h hk

/- Ranks. -/
theorem cntP_take (xs : List Int) (p : Int → Bool) : ∀ k, k ≤ xs.length → cntP xs p k = (xs.take k).countP p
  | 0, _ => by simp [cntP]
  | k + 1, h => by
    have hk : k < xs.length := by omega
    have e : xs[k]? = some (ivL xs k) := by simp [ivL, hk]
    rw [cntP, cntP_take xs p k (by omega), List.take_add_one, e, List.countP_append]
    cases hp : p (ivL xs k) <;> simp [hp]
theorem rk_mod {n P : Int} (hP : 1 ≤ P) : (n - 1) % P + 1 = n - (n - 1) / P * P := by
  have h := Int.mul_ediv_add_emod (n - 1) P
  rw [Int.mul_comm] at h
  omega
theorem rk_found {rs : List (Int × Int)} (h : whB rs = true) (n : Int) : (spk rs).contains ((n - 1) % (whP rs : Int) + 1) = leftF rs n := by
  have hp := (whB_parts h).2.2.2.2.1
  have e : leftF rs ((n - 1) % (whP rs : Int) + 1) = leftF rs n := by
    rw [rk_mod (by omega)]
    have := wh_per h (n - (n - 1) / (whP rs : Int) * (whP rs : Int)) ((n - 1) / (whP rs : Int))
    rw [← this]
    congr 1
    rw [Int.mul_comm (whP rs : Int)]
    omega
  rw [← e, Bool.eq_iff_iff, List.contains_iff_mem, spk_mem]
  have h0 := Int.emod_nonneg (n - 1) (b := (whP rs : Int)) (by omega)
  have h1 := Int.emod_lt_of_pos (n - 1) (b := (whP rs : Int)) (by omega)
  constructor
  · rintro ⟨_, _, h⟩; exact h
  · intro h; exact ⟨by omega, by omega, h⟩
theorem rk_rank {rs : List (Int × Int)} (h : whB rs = true) (n : Int) : (spk rs).countP (fun x => decide (x < (n - 1) % (whP rs : Int) + 1)) = cntP (spk rs) (rkT rs n) (spk rs).length := by
  have hp := (whB_parts h).2.2.2.2.1
  rw [cntP_take _ _ _ (Nat.le_refl _), List.take_length, rk_mod (by omega)]
  rfl

/- The greatest and the least of numbers. -/
theorem maxOf_parts (zs : List Int) : ∀ k, 0 < k → k ≤ zs.length → (∃ j, j < k ∧ zs.getD j 0 = Lib.maxOf (zs.take k)) ∧ ∀ i, i < k → zs.getD i 0 ≤ Lib.maxOf (zs.take k)
  | 0, h, _ => absurd h (Nat.lt_irrefl _)
  | 1, _, _ => by
    rw [Lib.maxOf_one]
    exact ⟨⟨0, by omega, rfl⟩, fun i hi => by rw [show i = 0 by omega]; exact Int.le_refl _⟩
  | k + 2, _, hk => by
    obtain ⟨⟨j, hj, e⟩, hall⟩ := maxOf_parts zs (k + 1) (by omega) (by omega)
    rw [Lib.maxOf_step zs (k + 1) (by omega) (by omega)]
    constructor
    · by_cases hx : Lib.maxOf (zs.take (k + 1)) ≤ zs.getD (k + 1) 0
      · exact ⟨k + 1, by omega, by omega⟩
      · exact ⟨j, by omega, by omega⟩
    · intro i hi
      rcases Nat.lt_succ_iff_lt_or_eq.1 hi with h | h
      · have := hall i h; omega
      · subst h; omega
theorem minOf_parts (zs : List Int) : ∀ k, 0 < k → k ≤ zs.length → (∃ j, j < k ∧ zs.getD j 0 = Lib.minOf (zs.take k)) ∧ ∀ i, i < k → Lib.minOf (zs.take k) ≤ zs.getD i 0
  | 0, h, _ => absurd h (Nat.lt_irrefl _)
  | 1, _, _ => by
    rw [Lib.minOf_one]
    exact ⟨⟨0, by omega, rfl⟩, fun i hi => by rw [show i = 0 by omega]; exact Int.le_refl _⟩
  | k + 2, _, hk => by
    obtain ⟨⟨j, hj, e⟩, hall⟩ := minOf_parts zs (k + 1) (by omega) (by omega)
    rw [Lib.minOf_step zs (k + 1) (by omega) (by omega)]
    constructor
    · by_cases hx : zs.getD (k + 1) 0 ≤ Lib.minOf (zs.take (k + 1))
      · exact ⟨k + 1, by omega, by omega⟩
      · exact ⟨j, by omega, by omega⟩
    · intro i hi
      rcases Nat.lt_succ_iff_lt_or_eq.1 hi with h | h
      · have := hall i h; omega
      · subst h; omega
theorem lsF_at {rs : List (Int × Int)} (h : whB rs = true) : ∀ k, 0 < k → k ≤ (stA rs).length → ∃ j, j < k ∧ lsF rs k = (ivL (stA rs) j, ivL (spk rs) j) ∧ (∀ i, i < j → ivL (stA rs) i < ivL (stA rs) j) ∧ ∀ i, i < k → ivL (stA rs) i ≤ ivL (stA rs) j
  | 0, h, _ => absurd h (Nat.lt_irrefl _)
  | 1, _, h1 => by
    have := stA_pos h (k := 0) (by omega)
    exact ⟨0, by omega, lsF_yes (by show (0 : Int) < _; omega), fun i hi => absurd hi (Nat.not_lt_zero _), fun i hi => by rw [show i = 0 by omega]; exact Int.le_refl _⟩
  | k + 2, _, h1 => by
    obtain ⟨j, hj, e, a, b⟩ := lsF_at h (k + 1) (by omega) (by omega)
    by_cases hx : (lsF rs (k + 1)).1 < ivL (stA rs) (k + 1)
    · rw [lsF_yes hx]
      rw [e] at hx
      have hx' : ivL (stA rs) j < ivL (stA rs) (k + 1) := hx
      refine ⟨k + 1, by omega, rfl, fun i hi => ?_, fun i hi => ?_⟩
      · have := b i hi; omega
      · rcases Nat.lt_succ_iff_lt_or_eq.1 hi with h | h
        · have := b i h; omega
        · subst h; omega
    · rw [lsF_no hx]
      rw [e] at hx
      have hx' : ¬ ivL (stA rs) j < ivL (stA rs) (k + 1) := hx
      refine ⟨j, by omega, e, a, fun i hi => ?_⟩
      rcases Nat.lt_succ_iff_lt_or_eq.1 hi with h | h
      · exact b i h
      · subst h; omega
/-- The longest step, as the library's two functions tell it. -/
theorem ls_lib {rs : List (Int × Int)} (h : whB rs = true) : ∃ j, j < (stA rs).length ∧ Lib.maxOf ((stA rs).take (stA rs).length) = ivL (stA rs) j ∧ Lib.idxOf ((stA rs).take (stA rs).length) (ivL (stA rs) j) = (j : Int) ∧ lsA rs = (ivL (stA rs) j, ivL (spk rs) j) := by
  have hpos := spk_pos h
  rw [← stA_len] at hpos
  obtain ⟨j, hj, e, a, b⟩ := lsF_at h (stA rs).length hpos (Nat.le_refl _)
  obtain ⟨⟨i, hi, e2⟩, c⟩ := maxOf_parts (stA rs) (stA rs).length hpos (Nat.le_refl _)
  refine ⟨j, hj, ?_, Lib.idxOf_hit (stA rs) _ j _ hj (Nat.le_refl _) rfl fun i hi => ?_, ?_⟩
  · have h1 := b i hi
    have h2 := c j hj
    have h3 : ivL (stA rs) i = (stA rs).getD i 0 := rfl
    have h4 : ivL (stA rs) j = (stA rs).getD j 0 := rfl
    omega
  · have := a i hi
    have h3 : ivL (stA rs) i = (stA rs).getD i 0 := rfl
    omega
  · rw [lsA_yes h, ← stA_len, e]
theorem stOk_min {ss : List Int} (h : 0 < ss.length) : stOk ss = decide (1 ≤ Lib.minOf (ss.take ss.length)) := by
  obtain ⟨⟨j, hj, e⟩, hall⟩ := minOf_parts ss ss.length h (Nat.le_refl _)
  by_cases hm : 1 ≤ Lib.minOf (ss.take ss.length)
  · rw [decide_eq_true hm]
    exact stOk_yes fun k hk => by have := hall k hk; rw [ivL]; omega
  · rw [decide_eq_false hm]
    exact stOk_no hj (by rw [ivL, e]; exact hm)

end Go.Proofs.Ytaapfapejekkfaa
