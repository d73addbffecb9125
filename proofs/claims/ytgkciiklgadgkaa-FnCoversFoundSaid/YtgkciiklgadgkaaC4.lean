import Derived.Test.YtgkciiklgadgkaaC0
import Derived.Lib.SlMapEqual
import Derived.Maps.RangeWalk
import Derived.Maps.Ext
import Derived.Deep.LoopGhost
import Derived.Laws.IdiomRangeMap
namespace Go.Proofs.Ytgkciiklgadgkaa
open Go.RowKit Go.Maps
set_option linter.unusedVariables false
set_option linter.unusedSimpArgs false

/-! ### the least common multiple -/
theorem lcm_nat (x y : Nat) : lcmF (x : Int) (y : Int) = (Nat.lcm x y : Int) := by
  unfold lcmF gcdF
  rw [Int.toNat_natCast, Int.toNat_natCast, ← Int.natCast_ediv, ← Int.natCast_mul]
  congr 1
  unfold Nat.lcm
  rw [Nat.mul_comm x y, Nat.mul_div_assoc _ (Nat.gcd_dvd_left x y), Nat.mul_comm]
theorem lcmF_one (x : Int) (hx : 1 ≤ x) : lcmF x 1 = x := by
  obtain ⟨x, rfl⟩ := Int.eq_ofNat_of_zero_le (show 0 ≤ x by omega)
  have := lcm_nat x 1
  rw [Nat.lcm_one_right] at this
  exact this
theorem lcmF_assoc (x p e : Int) (hx : 1 ≤ x) (hp : 1 ≤ p) (he : 1 ≤ e) : lcmF (lcmF x p) e = lcmF x (lcmF p e) := by
  obtain ⟨x, rfl⟩ := Int.eq_ofNat_of_zero_le (show 0 ≤ x by omega)
  obtain ⟨p, rfl⟩ := Int.eq_ofNat_of_zero_le (show 0 ≤ p by omega)
  obtain ⟨e, rfl⟩ := Int.eq_ofNat_of_zero_le (show 0 ≤ e by omega)
  rw [lcm_nat, lcm_nat, lcm_nat, lcm_nat, Nat.lcm_assoc]
theorem lcmF_mono (x q z : Int) (hx : 1 ≤ x) (hq : 1 ≤ q) (hz : 1 ≤ z) (h : q ∣ z) : lcmF x q ≤ lcmF x z := by
  obtain ⟨x, rfl⟩ := Int.eq_ofNat_of_zero_le (show 0 ≤ x by omega)
  obtain ⟨q, rfl⟩ := Int.eq_ofNat_of_zero_le (show 0 ≤ q by omega)
  obtain ⟨z, rfl⟩ := Int.eq_ofNat_of_zero_le (show 0 ≤ z by omega)
  rw [lcm_nat, lcm_nat]
  have hd : q ∣ z := Int.natCast_dvd_natCast.1 h
  have h1 : Nat.lcm x q ∣ Nat.lcm x z := Nat.lcm_dvd (Nat.dvd_lcm_left x z) (Nat.dvd_trans hd (Nat.dvd_lcm_right x z))
  have h2 : 0 < Nat.lcm x z := Nat.lcm_pos (by omega) (by omega)
  have := Nat.le_of_dvd h2 h1
  omega
theorem lcmF_ge (x q : Int) (hx : 1 ≤ x) (hq : 1 ≤ q) : q ≤ lcmF x q := by
  obtain ⟨x, rfl⟩ := Int.eq_ofNat_of_zero_le (show 0 ≤ x by omega)
  obtain ⟨q, rfl⟩ := Int.eq_ofNat_of_zero_le (show 0 ≤ q by omega)
  rw [lcm_nat]
  have := Nat.le_of_dvd (Nat.lcm_pos (m := x) (n := q) (by omega) (by omega)) (Nat.dvd_lcm_right x q)
  omega
theorem lcmF_dvd (p e : Int) (hp : 1 ≤ p) (he : 1 ≤ e) : p ∣ lcmF p e := by
  obtain ⟨p, rfl⟩ := Int.eq_ofNat_of_zero_le (show 0 ≤ p by omega)
  obtain ⟨e, rfl⟩ := Int.eq_ofNat_of_zero_le (show 0 ≤ e by omega)
  rw [lcm_nat]
  exact Int.natCast_dvd_natCast.2 (Nat.dvd_lcm_left p e)

theorem perGo_dvd : ∀ (rs : List (Int × Int)) (p : Int), 1 ≤ p → (∀ r ∈ rs, 1 ≤ r.1) → perGo rs p ≠ 0 → p ∣ perGo rs p
  | [], p, _, _, _ => Int.dvd_refl p
  | r :: rs, p, hp, hr, h => by
    have he := hr r (by simp)
    rw [perGo] at h ⊢
    by_cases hb : 100000 < lcmF p r.1
    · rw [if_pos hb] at h; exact absurd rfl h
    · rw [if_neg hb] at h ⊢
      exact Int.dvd_trans (lcmF_dvd p r.1 hp he) (perGo_dvd rs _ (lcmF_pos p r.1 hp he) (fun x hx => hr x (by simp [hx])) h)
theorem perGo_append : ∀ (xs bs : List (Int × Int)) (p : Int), 1 ≤ p → (∀ r ∈ xs, 1 ≤ r.1) → perGo (xs ++ bs) p = if perGo xs p = 0 then 0 else perGo bs (perGo xs p)
  | [], bs, p, hp, _ => by
    have : ¬ perGo [] p = 0 := by rw [perGo]; omega
    rw [if_neg this]; rfl
  | r :: xs, bs, p, hp, hr => by
    have he := hr r (by simp)
    rw [List.cons_append, perGo, perGo]
    by_cases hb : 100000 < lcmF p r.1
    · rw [if_pos hb, if_pos hb, if_pos rfl]
    · rw [if_neg hb, if_neg hb]
      exact perGo_append xs bs _ (lcmF_pos p r.1 hp he) fun x hx => hr x (by simp [hx])
theorem perGo_lcm (x : Int) (hx : 1 ≤ x) : ∀ (bs : List (Int × Int)) (p : Int), 1 ≤ p → (∀ r ∈ bs, 1 ≤ r.1) → lcmF x p ≤ 100000 →
    perGo bs (lcmF x p) = if perGo bs p = 0 then 0 else if 100000 < lcmF x (perGo bs p) then 0 else lcmF x (perGo bs p)
  | [], p, hp, _, hl => by
    rw [perGo, perGo, if_neg (show ¬ p = 0 by omega), if_neg (by omega)]
  | r :: bs, p, hp, hr, hl => by
    have he := hr r (by simp)
    have hr' : ∀ y ∈ bs, 1 ≤ y.1 := fun y hy => hr y (by simp [hy])
    have hq := lcmF_pos p r.1 hp he
    rw [perGo, perGo, lcmF_assoc x p r.1 hx hp he]
    by_cases h1 : 100000 < lcmF p r.1
    · have := lcmF_ge x (lcmF p r.1) hx hq
      rw [if_pos h1, if_pos rfl, if_pos (by omega)]
    · rw [if_neg h1]
      by_cases h2 : 100000 < lcmF x (lcmF p r.1)
      · rw [if_pos h2]
        by_cases h3 : perGo bs (lcmF p r.1) = 0
        · rw [if_pos h3]
        · rw [if_neg h3]
          have hz : 1 ≤ perGo bs (lcmF p r.1) := by have := perGo_le bs (lcmF p r.1) hq (by omega) hr'; omega
          have := lcmF_mono x _ _ hx hq hz (perGo_dvd bs _ hq hr' h3)
          rw [if_pos (by omega)]
      · rw [if_neg h2]
        exact perGo_lcm x hx bs _ hq hr' (by omega)
theorem good_one {rs : List (Int × Int)} (h : goodL rs = true) : ∀ r ∈ rs, 1 ≤ r.1 := fun r hr => by have := good_mem h r hr; omega
theorem perF_two {xs bs : List (Int × Int)} (ha : goodL xs = true) (hb : goodL bs = true) : perF (xs ++ bs) = if perF xs = 0 then 0 else perGo bs (perF xs) := perGo_append xs bs 1 (by omega) (good_one ha)
theorem perF_next {bs : List (Int × Int)} (hb : goodL bs = true) (x : Int) (h1 : 1 ≤ x) (h2 : x ≤ 100000) : perGo bs x = if perF bs = 0 then 0 else if 100000 < lcmF x (perF bs) then 0 else lcmF x (perF bs) := by
  have h := perGo_lcm x h1 bs 1 (by omega) (good_one hb) (by rw [lcmF_one _ h1]; omega)
  rw [lcmF_one _ h1] at h
  exact h
/-- The period of both lists together. -/
theorem perF_both {xs bs : List (Int × Int)} (ka : perOk xs = true) (kb : perOk bs = true) :
    perF (xs ++ bs) = if 100000 < lcmF (perF xs) (perF bs) then 0 else lcmF (perF xs) (perF bs) := by
  obtain ⟨ha, a0, a1, a2⟩ := perOk_parts ka
  obtain ⟨hb, b0, _, _⟩ := perOk_parts kb
  rw [perF_two ha hb, if_neg a0, perF_next hb _ a1 a2, if_neg b0]
theorem perF_both_no {xs bs : List (Int × Int)} (ha : goodL xs = true) (hb : goodL bs = true) (k : perOk xs = false ∨ perOk bs = false) : perF (xs ++ bs) = 0 := by
  rw [perF_two ha hb]
  by_cases a0 : perF xs = 0
  · rw [if_pos a0]
  · rw [if_neg a0]
    have hk : perF bs = 0 := by
      rcases k with k | k
      · simp [perOk, ha, a0] at k
      · simpa [perOk, hb] using k
    have ka : perOk xs = true := by simp [perOk, ha, a0]
    obtain ⟨_, _, a1, a2⟩ := perOk_parts ka
    rw [perF_next hb _ a1 a2, if_pos hk]

/-! ### two sets held against each other -/
theorem Rs_mem (p : Int → Bool) : ∀ (k : Nat) (es : List (Lit × DataW Unit)), Rs p k = .map es → ∀ e ∈ es, ∃ j : Nat, j < k ∧ p (j : Int) = true ∧ e = (.int .i64 (j : Int), .lit (.bool true))
  | 0, es, h, e, he => by
    rw [Rs] at h
    cases h
    cases he
  | k + 1, es, h, e, he => by
    cases hp : p (k : Int) with
    | false =>
      rw [Rs_no hp] at h
      obtain ⟨j, hj, h1, h2⟩ := Rs_mem p k es h e he
      exact ⟨j, by omega, h1, h2⟩
    | true =>
      rw [Rs_yes hp] at h
      obtain ⟨es0, h0⟩ := (tidy_Rs p k).isMap
      rw [h0, DataW.put_eq] at h
      cases h
      rcases Go.ChangeMaps.mem_insert_iff.1 he with rfl | he'
      · exact ⟨k, by omega, hp, rfl⟩
      · obtain ⟨j, hj, h1, h2⟩ := Rs_mem p k es0 h0 e (List.mem_filter.1 he').1
        exact ⟨j, by omega, h1, h2⟩
theorem Rs_congr {p q : Int → Bool} : ∀ (k : Nat), (∀ j : Nat, j < k → p (j : Int) = q (j : Int)) → Rs p k = Rs q k
  | 0, _ => rfl
  | k + 1, h => by
    have ih := Rs_congr k (fun j hj => h j (by omega))
    have hk := h k (by omega)
    cases hp : p (k : Int) with
    | true => rw [Rs_yes hp, Rs_yes (hk ▸ hp), ih]
    | false => rw [Rs_no hp, Rs_no (hk ▸ hp), ih]
theorem cnt_sub {p q : Int → Bool} : ∀ (k : Nat), (∀ j : Nat, j < k → p (j : Int) = true → q (j : Int) = true) → cntF p 0 k ≤ cntF q 0 k ∧ (cntF p 0 k = cntF q 0 k → ∀ j : Nat, j < k → p (j : Int) = q (j : Int))
  | 0, _ => ⟨Nat.le_refl _, fun _ j hj => absurd hj (by omega)⟩
  | k + 1, h => by
    obtain ⟨h1, h2⟩ := cnt_sub (p := p) (q := q) k (fun j hj => h j (by omega))
    have e : ((0 : Nat) : Int) + (k : Int) = (k : Int) := by omega
    have step : ∀ j : Nat, j < k + 1 → (j < k ∨ j = k) := fun j hj => by omega
    cases hp : p (k : Int) with
    | true =>
      have hq := h k (by omega) hp
      rw [cntF_yes (by rw [e]; exact hp), cntF_yes (by rw [e]; exact hq)]
      refine ⟨by omega, fun he j hj => ?_⟩
      rcases step j hj with hj | rfl
      · exact h2 (by omega) j hj
      · rw [hp, hq]
    | false =>
      rw [cntF_no (by rw [e]; exact hp)]
      cases hq : q (k : Int) with
      | true =>
        rw [cntF_yes (by rw [e]; exact hq)]
        exact ⟨by omega, fun he => by omega⟩
      | false =>
        rw [cntF_no (by rw [e]; exact hq)]
        refine ⟨h1, fun he j hj => ?_⟩
        rcases step j hj with hj | rfl
        · exact h2 he j hj
        · rw [hp, hq]
def sameF (p q : Int → Bool) (k : Nat) : Bool := decide (∀ j : Nat, j < k → p (j : Int) = q (j : Int))
def eqB : DataW Unit → DataW Unit → Bool
  | .lit (.bool a), .lit (.bool b) => a == b
  | _, _ => false
theorem same_Rs (p q : Int → Bool) (k : Nat) : Lib.equalFuncD eqB (Rs p k) (Rs q k) = sameF p q k := by
  obtain ⟨es, he⟩ := (tidy_Rs p k).isMap
  cases hs : sameF p q k with
  | true =>
    have h : ∀ j : Nat, j < k → p (j : Int) = q (j : Int) := of_decide_eq_true hs
    rw [← Rs_congr k h, Lib.equalFuncD, decide_eq_true rfl, Bool.true_and, he]
    refine List.all_eq_true.2 fun e hm => ?_
    obtain ⟨j, hj, hp, rfl⟩ := Rs_mem p k es he e hm
    have hh : has (DataW.map es) (.int .i64 (j : Int)) = true := by
      rw [← he, has_Rs, inB2, hp, Bool.and_true]
      exact decide_eq_true (by omega)
    have hat : (DataW.map es).atKey (.int .i64 (j : Int)) .nil = .lit (.bool true) := by
      obtain ⟨es', he', hpw⟩ := tidy_Rs p k
      rw [he] at he'
      cases he'
      exact WideAt.atKey_mem .nil (by trivial) hpw hm
    show (has (DataW.map es) _ && eqB _ _) = true
    rw [hh, hat]
    rfl
  | false =>
    have h : ¬ ∀ j : Nat, j < k → p (j : Int) = q (j : Int) := of_decide_eq_false hs
    rw [Lib.equalFuncD, size_Rs, size_Rs]
    by_cases hc : cntF p 0 k = cntF q 0 k
    · rw [decide_eq_true hc, Bool.true_and]
      rw [← Bool.not_eq_true, List.all_eq_true]
      intro hall
      apply h
      refine (cnt_sub k fun j hj hp => ?_).2 hc
      have hh : has (Rs p k) (.int .i64 (j : Int)) = true := by
        rw [has_Rs, inB2, hp, Bool.and_true]
        exact decide_eq_true (by omega)
      rw [he] at hh hall
      obtain ⟨e, hm, hsk⟩ := List.any_eq_true.1 hh
      have ek := WideAt.sameKey_eq hsk
      have := hall e hm
      simp only [Lib.goodD, Bool.and_eq_true] at this
      have h1 := this.1
      rw [ek, has_Rs, inB2, Bool.and_eq_true] at h1
      exact h1.2
    · rw [decide_eq_false hc, Bool.false_and]

end Go.Proofs.Ytgkciiklgadgkaa
