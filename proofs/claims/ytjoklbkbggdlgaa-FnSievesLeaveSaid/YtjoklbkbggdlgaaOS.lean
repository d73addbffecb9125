import Derived.Test.YtjoklbkbggdlgaaB2
import Derived.Test.YtjoklbkbggdlgaaN0
namespace Go.Proofs.Ytjoklbkbggdlgaa
open Go.RowKit
set_option maxRecDepth 100000
set_option linter.unusedVariables false
set_option linter.unusedSimpArgs false

/-! What FnSievesLeave asks of sieves. -/
theorem upF_strictS (p : Int → Bool) : ∀ k, (upF p k).Pairwise (· < ·)
  | 0 => List.Pairwise.nil
  | k + 1 => by
    cases h : p ((k : Int) + 1) with
    | false => rw [upF_no h]; exact upF_strictS p k
    | true =>
      rw [upF_yes h, List.pairwise_append]
      refine ⟨upF_strictS p k, List.pairwise_singleton _ _, fun x hx y hy => ?_⟩
      rw [List.mem_singleton] at hy
      subst hy
      rw [upF, List.mem_filter, List.mem_map] at hx
      obtain ⟨⟨i, hi, rfl⟩, _⟩ := hx
      have := List.mem_range.1 hi
      omega
theorem os_mem {p : Int → Bool} {M : Nat} {x : Int} : x ∈ upF p M ↔ 1 ≤ x ∧ x ≤ (M : Int) ∧ p x = true := by
  simp only [upF, List.mem_filter, List.mem_map, List.mem_range]
  constructor
  · rintro ⟨⟨i, h1, rfl⟩, h2⟩; exact ⟨by omega, by omega, h2⟩
  · rintro ⟨h1, h2, h3⟩; exact ⟨⟨(x - 1).toNat, by omega, by omega⟩, h3⟩
theorem ivL_getS {xs : List Int} {k : Nat} (h : k < xs.length) : ivL xs k = xs[k] := by simp [ivL, h]
theorem os_at {p : Int → Bool} {M k : Nat} (h : k < (upF p M).length) : 1 ≤ ivL (upF p M) k ∧ ivL (upF p M) k ≤ (M : Int) ∧ p (ivL (upF p M) k) = true := by
  rw [ivL_getS h]
  exact os_mem.1 (List.getElem_mem h)
theorem os_lt {p : Int → Bool} {M i j : Nat} (hij : i < j) (hj : j < (upF p M).length) : ivL (upF p M) i < ivL (upF p M) j := by
  rw [ivL_getS hj, ivL_getS (Nat.lt_trans hij hj)]
  exact (List.pairwise_iff_getElem.1 (upF_strictS p M)) i j _ hj hij
theorem upF_rises (p : Int → Bool) (M : Nat) : ∀ k, k < (upF p M).length → 1 ≤ ivL (upF p M) k ∧ ivL (upF p M) k ≤ (M : Int) ∧ ∀ j, k = j + 1 → ivL (upF p M) j < ivL (upF p M) k := fun k hk =>
  ⟨(os_at hk).1, (os_at hk).2.1, fun j e => os_lt (by omega) hk⟩
theorem sl_has {p : Int → Bool} {M n : Nat} (h1 : 1 ≤ n) (h2 : n ≤ M) : hasF (upF p M) (n : Int) = p (n : Int) := by
  rw [Bool.eq_iff_iff, hasF_mem, os_mem]
  exact ⟨fun h => h.2.2, fun h => ⟨by omega, by omega, h⟩⟩
theorem upF_more (p : Int → Bool) (a : Nat) : ∀ k, ∃ zs, upF p (a + k) = upF p a ++ zs
  | 0 => ⟨[], by simp⟩
  | k + 1 => by
    obtain ⟨zs, hz⟩ := upF_more p a k
    cases h : p (((a + k : Nat) : Int) + 1) with
    | true => exact ⟨zs ++ [((a + k : Nat) : Int) + 1], by rw [← Nat.add_assoc, upF_yes h, hz, List.append_assoc]⟩
    | false => exact ⟨zs, by rw [← Nat.add_assoc, upF_no h, hz]⟩
theorem sl_rank {rs : List (Int × Int)} {M k : Nat} (hg : goodL rs = true) (hM : M ≤ 600) (hk : k < (upF (leftF rs) M).length) : rankOk rs (k : Int) = true ∧ rankV rs (k : Int) = ivL (upF (leftF rs) M) k := by
  obtain ⟨zs, hz⟩ := upF_more (leftF rs) M (600 - M)
  rw [show M + (600 - M) = 600 by omega] at hz
  have hlen : k < (allLeft rs).length := by rw [allLeft, hz, List.length_append]; omega
  have hok : rankOk rs (k : Int) = true := by rw [rankOk, hg, Bool.true_and, decide_eq_true_eq]; omega
  refine ⟨hok, ?_⟩
  rw [rank_yes hok]
  show ivL (allLeft rs) k = _
  rw [ivL_getS hlen, ivL_getS hk]
  simp only [allLeft, hz]
  exact List.getElem_append_left hk
theorem sl_num {n : Int} (h1 : -600 ≤ n) (h2 : n ≤ 600) : numB n = true := numB_true.2 ⟨h1, h2⟩
theorem sl_next {rs : List (Int × Int)} {M k : Nat} (hg : goodL rs = true) (hM : M ≤ 600) (hk : k + 1 < (upF (leftF rs) M).length) : nextOk rs (ivL (upF (leftF rs) M) k) = true ∧ nextV rs (ivL (upF (leftF rs) M) k) = ivL (upF (leftF rs) M) (k + 1) := by
  obtain ⟨a1, a2, a3⟩ := os_at (p := leftF rs) (M := M) (k := k) (by omega)
  obtain ⟨b1, b2, b3⟩ := os_at hk
  have hlt := os_lt (p := leftF rs) (M := M) (i := k) (j := k + 1) (by omega) hk
  obtain ⟨A, hA⟩ : ∃ x, ivL (upF (leftF rs) M) k = x := ⟨_, rfl⟩
  obtain ⟨B, hB⟩ : ∃ x, ivL (upF (leftF rs) M) (k + 1) = x := ⟨_, rfl⟩
  have hgap : ∀ x, A < x → x < B → leftF rs x = false := fun x h1 h2 => by
    cases hl : leftF rs x with
    | false => rfl
    | true =>
      exfalso
      have hx : x ∈ upF (leftF rs) M := os_mem.2 ⟨by omega, by omega, hl⟩
      obtain ⟨i, hi, e⟩ := List.getElem_of_mem hx
      rw [← ivL_getS hi] at e
      rcases Nat.lt_or_ge i (k + 1) with h3 | h3
      · rcases Nat.lt_or_ge i k with h4 | h4
        · have := os_lt (p := leftF rs) (M := M) h4 (by omega); omega
        · rw [show i = k by omega] at e; omega
      · rcases Nat.lt_or_ge (k + 1) i with h4 | h4
        · have := os_lt (p := leftF rs) (M := M) h4 hi; omega
        · rw [show i = k + 1 by omega] at e; omega
  rw [hA] at a1 a2 a3 hlt ⊢
  rw [hB] at b1 b2 b3 hlt ⊢
  have hn := sl_num (n := A) (by omega) (by omega)
  obtain ⟨v, o⟩ := next_of (rs := rs) (n := A) (k := (B - A - 1).toNat) hg hn (by omega) (fun j hj => hgap _ (by omega) (by omega)) (by rw [show A + 1 + (((B - A - 1).toNat : Nat) : Int) = B by omega]; exact b3)
  refine ⟨by first | exact o | exact v, ?_⟩
  have hv : nextV rs A = A + 1 + (((B - A - 1).toNat : Nat) : Int) := by first | exact v | exact o
  rw [hv]
  omega
/-- The first rule that crosses out a number, or that it is left. -/
theorem sl_first {rs : List (Int × Int)} {n : Nat} (hg : goodL rs = true) (h1 : 1 ≤ n) (h2 : n ≤ 600) : okN rs (n : Int) = true ∧ isLeftV rs (n : Int) = leftF rs (n : Int) ∧ firstOk rs (n : Int) = !leftF rs (n : Int) ∧
    (leftF rs (n : Int) = false → ∃ F, F < rs.length ∧ firstV rs (n : Int) = (F : Int) ∧ (n : Int) % evL rs F = reL rs F ∧ 2 ≤ evL rs F) := by
  have hok : okN rs (n : Int) = true := by rw [okN, hg, sl_num (by omega) (by omega)]; rfl
  refine ⟨hok, by rw [isLeftV, hok]; rfl, by rw [firstOk, hok]; rfl, fun hl => ?_⟩
  have hF : fIdx rs (n : Int) < rs.length := by
    have := fIdx_le rs (n : Int)
    rw [leftF, decide_eq_false_iff_not] at hl
    omega
  refine ⟨fIdx rs (n : Int), hF, by rw [firstV, hok, hl]; rfl, ?_, (okR_at hg hF).1⟩
  have hc := List.findIdx_getElem (w := hF)
  have hc2 : crossAt rs (n : Int) (fIdx rs (n : Int)) = true := by rw [crossAt_get hF]; exact hc
  exact crossF_true.1 hc2
/-- What the first k rules cross out of 1, .., M, together. -/
def totC (rs : List (Int × Int)) (M : Nat) : Nat → Nat
  | 0 => 0
  | k + 1 => totC rs M k + (upF (crossP rs k) M).length
theorem up_split (p q r : Int → Bool) (h : ∀ x, (p x = true ↔ q x = true ∨ r x = true) ∧ ¬ (q x = true ∧ r x = true)) : ∀ M, (upF p M).length = (upF q M).length + (upF r M).length
  | 0 => rfl
  | M + 1 => by
    have ih := up_split p q r h M
    obtain ⟨a, b⟩ := h ((M : Int) + 1)
    rw [upF_succ, upF_succ, upF_succ]
    cases hq : q ((M : Int) + 1) <;> cases hr : r ((M : Int) + 1) <;> cases hp : p ((M : Int) + 1) <;> simp_all <;> omega
theorem totC_go (rs : List (Int × Int)) (M : Nat) : ∀ k, totC rs M k + (upF (fun x => decide (k ≤ fIdx rs x)) M).length = M
  | 0 => by
    have : (upF (fun x => decide (0 ≤ fIdx rs x)) M) = ((List.range M).map fun i : Nat => (i : Int) + 1) := by
      rw [upF, List.filter_eq_self]
      intro x _
      exact decide_eq_true (Nat.zero_le _)
    rw [this, totC]
    simp
  | k + 1 => by
    have ih := totC_go rs M k
    have hs := up_split (fun x => decide (k ≤ fIdx rs x)) (crossP rs k) (fun x => decide (k + 1 ≤ fIdx rs x)) (fun x => by simp only [crossP, decide_eq_true_eq]; omega) M
    rw [totC]
    omega
theorem totC_all (rs : List (Int × Int)) (M : Nat) : totC rs M rs.length + (upF (leftF rs) M).length = M := by
  have h := totC_go rs M rs.length
  have e : (fun x => decide (rs.length ≤ fIdx rs x)) = leftF rs := by
    funext x
    have := fIdx_le rs x
    rw [leftF, decide_eq_decide]
    omega
  rwa [e] at h
theorem totC_le (rs : List (Int × Int)) (M k : Nat) : totC rs M k ≤ M := by have := totC_go rs M k; omega
theorem sl_crossed {rs : List (Int × Int)} {M k : Nat} (hg : goodL rs = true) (hm : mostB (M : Int) = true) (hk : k < rs.length) : okC rs (k : Int) (M : Int) = true ∧ crossV rs (k : Int) (M : Int) = upF (crossP rs k) M := by
  have hok : okC rs (k : Int) (M : Int) = true := by rw [okC, okM, hg, hm, Bool.true_and, Bool.true_and, inB_true]; omega
  exact ⟨hok, crossV_yes hok⟩
theorem cntF_addS (p : Int → Bool) (a : Nat) : ∀ k, cntF p 1 (a + k) = cntF p 1 a + cntF p (1 + a) k
  | 0 => by rw [cntF]; rfl
  | k + 1 => by
    rw [← Nat.add_assoc, cntF, cntF_addS p a k, cntF]
    rw [show ((1 : Nat) : Int) + ((a + k : Nat) : Int) = ((1 + a : Nat) : Int) + (k : Int) by omega]
    omega
theorem sl_between {rs : List (Int × Int)} {lo hi : Int} (h : okB rs lo hi = true) (h1 : 1 ≤ lo) (h2 : lo ≤ hi) (hml : mostB (lo - 1) = true) : okM rs hi = true ∧ okM rs (lo - 1) = true ∧ btwV rs lo hi = cntV rs hi - cntV rs (lo - 1) := by
  have hk := h
  rw [okB, Bool.and_eq_true, Bool.and_eq_true] at hk
  obtain ⟨⟨g, m1⟩, m2⟩ := hk
  have k1 : okM rs hi = true := by rw [okM, g, m2]; rfl
  have k2 : okM rs (lo - 1) = true := by rw [okM, g, hml]; rfl
  refine ⟨k1, k2, ?_⟩
  rw [btwV, if_pos h, cntV, if_pos k1, cntV, if_pos k2, ← cntF_up, ← cntF_up]
  have := cntF_addS (leftF rs) (lo - 1).toNat (hi.toNat + 1 - lo.toNat)
  rw [show (lo - 1).toNat + (hi.toNat + 1 - lo.toNat) = hi.toNat by omega, show 1 + (lo - 1).toNat = lo.toNat by omega] at this
  omega

end Go.Proofs.Ytjoklbkbggdlgaa
