import Derived.Test.YtoapidcbmlnjcaaI0
import Derived.Test.YtoapidcbmlnjcaaQ5
namespace Go.Proofs.Ytoapidcbmlnjcaa
open Go.RowKit
set_option linter.unusedVariables false
set_option linter.unusedSimpArgs false

/-! Pairs. -/
def leB (rs : List (Int × Int)) (n : Nat) : Nat := if lfQ rs n = true then 1 else 0
def prS (rs : List (Int × Int)) (P q : Nat) : Nat → Nat
  | 0 => 0
  | k + 1 => prS rs P q k + leB rs (k % P) * leB rs ((k + q) % P)
theorem prS_le (rs : List (Int × Int)) (P q : Nat) : ∀ k, prS rs P q k ≤ k
  | 0 => Nat.le_refl _
  | k + 1 => by
    have := prS_le rs P q k
    rw [prS, leB, leB]
    split <;> split <;> omega
theorem leB_mod {rs : List (Int × Int)} (h : perOk rs = true) (n : Nat) : leB rs (n % (perF rs).toNat) = leB rs n := by
  have e := Nat.mod_add_div n (perF rs).toNat
  rw [leB, leB, ← per_mul (lf_per h) (n % (perF rs).toNat) (n / (perF rs).toNat), e]
theorem pairs_is {rs : List (Int × Int)} (h : perOk rs = true) (q : Nat) : prS rs (perF rs).toNat q (perF rs).toNat = ppN rs (q : Int) (gpA rs).length := by
  have key : ∀ k, k ≤ (perF rs).toNat → ∀ j, (flF (lfQ rs) 0 k).length = j → prS rs (perF rs).toNat q k = ppN rs (q : Int) j := by
    intro k
    induction k with
    | zero => intro _ j hj; rw [← hj]; rfl
    | succ k ih =>
      intro hk j hj
      have ih := ih (by omega) _ rfl
      rw [prS, ih, leB_mod h, leB_mod h]
      cases hl : lfQ rs k with
      | false =>
        rw [flF_no (by rw [Nat.zero_add]; exact hl)] at hj
        rw [← hj, leB, hl]; simp
      | true =>
        rw [flF_yes (by rw [Nat.zero_add]; exact hl), List.length_append, List.length_singleton] at hj
        have ek : ivL (gpA rs) (flF (lfQ rs) 0 k).length = (k : Int) := by
          obtain ⟨d, hd⟩ : ∃ d, (perF rs).toNat = k + 1 + d := ⟨(perF rs).toNat - (k + 1), by omega⟩
          have : ∀ d, ivL (flF (lfQ rs) 0 (k + 1 + d)) (flF (lfQ rs) 0 k).length = (k : Int) := by
            intro d
            induction d with
            | zero =>
              rw [Nat.add_zero, flF_yes (by rw [Nat.zero_add]; exact hl), ivL, List.getD_eq_getElem?_getD, List.getElem?_append_right (Nat.le_refl _), Nat.sub_self, Nat.zero_add]; rfl
            | succ d ihd =>
              have hlen : (flF (lfQ rs) 0 k).length < (flF (lfQ rs) 0 (k + 1 + d)).length := by
                have h0 : ∀ d, (flF (lfQ rs) 0 (k + 1)).length ≤ (flF (lfQ rs) 0 (k + 1 + d)).length := by
                  intro d
                  induction d with
                  | zero => exact Nat.le_refl _
                  | succ d ihd =>
                    cases hl2 : lfQ rs (k + 1 + d) with
                    | false => rw [← Nat.add_assoc, flF_no (k := k + 1 + d) (by rw [Nat.zero_add]; exact hl2)]; exact ihd
                    | true => rw [← Nat.add_assoc, flF_yes (k := k + 1 + d) (by rw [Nat.zero_add]; exact hl2), List.length_append]; omega
                have h1 := h0 d
                rw [flF_yes (k := k) (by rw [Nat.zero_add]; exact hl), List.length_append, List.length_singleton] at h1
                omega
              cases hl2 : lfQ rs (k + 1 + d) with
              | false => rw [← Nat.add_assoc, flF_no (by rw [Nat.zero_add]; exact hl2)]; exact ihd
              | true => rw [← Nat.add_assoc, flF_yes (by rw [Nat.zero_add]; exact hl2), ivL, List.getD_eq_getElem?_getD, List.getElem?_append_left hlen]; rw [ivL, List.getD_eq_getElem?_getD] at ihd; exact ihd
          rw [gpA_ok h, hd]
          exact this d
        have el : leB rs k = 1 := by rw [leB, if_pos hl]
        rw [← hj, ppN, ek, el, Nat.one_mul]
        have e3 : leftF rs ((k : Int) + (q : Int)) = lfQ rs (k + q) := by rw [lfQ]; congr 1
        rw [e3, leB]
        split <;> rfl
  exact key _ (Nat.le_refl _) _ (by rw [gpA_ok h])

end Go.Proofs.Ytoapidcbmlnjcaa
