import Derived.Test.YtaapfapejekkfaaJ1
import Derived.Test.YtaapfapejekkfaaYE
namespace Go.Proofs.Ytaapfapejekkfaa
open Go.RowKit
set_option linter.unusedVariables false
set_option linter.unusedSimpArgs false

/- Products over divisors, a step of the machine. -/
theorem ov_step {xs ys : List Int} (hx : smallL xs) (hy : smallL ys) {d k : Nat} (hd : 1 ≤ d) (hd2 : d ≤ 1000) (hk : 1 ≤ k) {p : Int} (hp : p = ovM xs ys (d * k) d k) :
    IntKind.i64.wrap (p + IntKind.i64.wrap (arI xs d * arI ys k)) = ovM xs ys (d * k) d (k + 1) := by
  have e := ovM_hit xs ys (d := d) (k := k) hd
  have b := ovM_bound hx hy (k * d) d (k + 1)
  rw [wrap_mul (arI_small hx _) (arI_small hy _), hp, arI, if_neg (by omega), arI, if_neg (by omega), Nat.mul_comm d k, ← e]
  exact IntWalk.i64_in _ (by omega)
theorem ov_other {xs ys : List Int} {n d k : Nat} (h : n ≠ d * k) : ovM xs ys n d (k + 1) = ovM xs ys n d k := ovM_other xs ys (by rw [Nat.mul_comm]; exact h)
theorem ovS_congr {a a' b : List Int} {n : Nat} : ∀ {k}, (∀ e, e < k → ivL a e = ivL a' e) → ovS a b n k = ovS a' b n k
  | 0, _ => rfl
  | k + 1, h => by rw [ovS, ovS, ovS_congr (k := k) fun e he => h e (by omega), tvF, tvF, show k + 1 - 1 = k by omega, h k (by omega)]
/- Tables undone. -/
def u1 (n : Nat) : Int := if n = 1 then 1 else 0
theorem unf_sum {a l u : List Int} {n : Nat} (h : ∀ e, e + 1 < n → ivL l e = ivL u e) : ∀ k, k < n → suF (unf a l n) (flF (dvP n) 1 k) = ovS u a n k
  | 0, _ => by rw [flF_zero]; rfl
  | k + 1, hk => by
    have ih := unf_sum (a := a) h k (by omega)
    by_cases hm : n % (k + 1) = 0
    · rw [loF_yes hm, suF_snoc, ih, ovS, tvF, if_pos hm, unf, if_pos (by omega), Int.toNat_natCast, show k + 1 - 1 = k by omega, h k (by omega)]
    · rw [loF_no hm, ih, ovS, tvF, if_neg hm, Int.add_zero]
theorem un_at {a : List Int} {n G : Nat} (h1 : 1 ≤ n) (hn : n ≤ G) : ivL (unL a G) (n - 1) = (u1 n - ovS (unL a G) a n (n - 1)) * ivL a 0 := by
  obtain ⟨k, rfl⟩ : ∃ k, n = k + 1 := ⟨n - 1, by omega⟩
  have hp : ∀ e, e ≤ k → ivL (unL a G) e = ivL (unL a (k + 1)) e := fun e he => by
    have := unL_past (a := a) (i := e) (n := k + 1) (d := G - (k + 1)) (by omega)
    rwa [show k + 1 + (G - (k + 1)) = G by omega] at this
  rw [show k + 1 - 1 = k by omega, hp k (Nat.le_refl _), unL, ivL_last (by rw [unL_len]), unV, dvD, loF_yes (Nat.mod_self _), suF_snoc, unf_sum (u := unL a G) (fun e he => by
    rw [hp e (by omega), unL, ivL_app (by rw [unL_len]; omega)]) k (by omega), unf, if_neg (show ¬ ((k + 1 : Nat) : Int) < ((k + 1 : Nat) : Int) by omega), Int.add_zero]
  rfl
/-- All but the last are numbers of a table. -/
def goodG (a : List Int) (G : Nat) : Prop := smallL (unL a (G - 1))
theorem un_small {a : List Int} {G e : Nat} (h : goodG a G) (h1 : 1 ≤ e) (he : e < G) : -1000000 ≤ ivL (unL a G) (e - 1) ∧ ivL (unL a G) (e - 1) ≤ 1000000 := by
  have hp := unL_past (a := a) (i := e - 1) (n := G - 1) (d := 1) (by omega)
  rw [show G - 1 + 1 = G by omega] at hp
  rw [hp]
  exact h (e - 1)
theorem un_cong {a : List Int} {G n k : Nat} (hk : k < G) : ovS (unL a G) a n k = ovS (unL a (G - 1)) a n k := ovS_congr fun e he => by
  have hp := unL_past (a := a) (i := e) (n := G - 1) (d := 1) (by omega)
  rw [show G - 1 + 1 = G by omega] at hp
  exact hp
theorem un_bound {a : List Int} {G n k : Nat} (ha : smallL a) (h : goodG a G) (hk : k < G) (hG : G ≤ 1000) : -2000000000000000 ≤ u1 n - ovS (unL a G) a n k ∧ u1 n - ovS (unL a G) a n k ≤ 2000000000000000 := by
  have b := ovS_bound h ha n k
  rw [un_cong hk, u1]
  split <;> omega
theorem one_mul_in {x y : Int} (hx : -2000000000000000 ≤ x ∧ x ≤ 2000000000000000) (hy : y = 1 ∨ y = -1) : IntKind.i64.wrap (x * y) = x * y := by
  rcases hy with rfl | rfl
  · exact IntWalk.i64_in _ (by omega)
  · exact IntWalk.i64_in _ (by omega)
/-- A number of the undone table by the machine. -/
theorem un_first {a : List Int} {G d : Nat} (ha : smallL a) (h0 : ivL a 0 = 1 ∨ ivL a 0 = -1) (h : goodG a G) (hG : G ≤ 1000) (h1 : 1 ≤ d) (hd : d ≤ G) {r : Int} (hr : r = u1 d - ovS (unL a G) a d (d - 1)) :
    IntKind.i64.wrap (r * arI a 1) = ivL (unL a G) (d - 1) := by
  rw [arI_succ, hr, one_mul_in (un_bound ha h (by omega) hG) h0, un_at h1 hd]
theorem un_M {a : List Int} {G n d k : Nat} (h1 : 1 ≤ d) (hd : d < G) : ovM (unL a G) a n d k = ovM (unL a (G - 1)) a n d k := by
  have e1 := un_cong (a := a) (n := n) (show d - 1 < G by omega)
  rw [ovM, ovM, e1]
  by_cases h : n % d = 0 ∧ n / d < k
  · rw [if_pos h, if_pos h, tvF, tvF]
    have hp := unL_past (a := a) (i := d - 1) (n := G - 1) (d := 1) (by omega)
    rw [show G - 1 + 1 = G by omega] at hp
    rw [hp]
  · rw [if_neg h, if_neg h]
theorem un_step {a : List Int} {G d k : Nat} (ha : smallL a) (h : goodG a G) (hG : G ≤ 1000) (h1 : 1 ≤ d) (hd : d < d * k) (hk : d * k ≤ G) {r : Int} (hr : r = u1 (d * k) - ovM (unL a G) a (d * k) d k) :
    IntKind.i64.wrap (r - IntKind.i64.wrap (ivL (unL a G) (d - 1) * arI a k)) = u1 (d * k) - ovM (unL a G) a (d * k) d (k + 1) := by
  have hk1 : k ≠ 0 := fun e => by subst e; omega
  have e := ovM_hit (unL a G) a (d := d) (k := k) h1
  have b := ovM_bound h ha (k * d) d (k + 1)
  rw [← un_M h1 (by omega)] at b
  have hu : -1 ≤ u1 (k * d) ∧ u1 (k * d) ≤ 1 := by rw [u1]; split <;> omega
  rw [wrap_mul (un_small h h1 (by omega)) (arI_small ha _), hr, Nat.mul_comm d k, arI, if_neg hk1, show u1 (k * d) - ovM (unL a G) a (k * d) d k - ivL (unL a G) (d - 1) * ivL a (k - 1) = u1 (k * d) - ovM (unL a G) a (k * d) d (k + 1) by rw [e]; omega]
  exact IntWalk.i64_in _ (by omega)
/-- How far the numbers are told. -/
theorem unL_get {a : List Int} {k n : Nat} (h : k < n) : ivL (unL a n) k = ivL (unL a (k + 1)) k := by
  have := unL_past (a := a) (i := k) (n := k + 1) (d := n - (k + 1)) (by omega)
  rwa [show k + 1 + (n - (k + 1)) = n by omega] at this
theorem small_succ {a : List Int} {k : Nat} (h : smallL (unL a k)) (h2 : -1000000 ≤ ivL (unL a (k + 1)) k ∧ ivL (unL a (k + 1)) k ≤ 1000000) : smallL (unL a (k + 1)) := fun i => by
  rcases Nat.lt_trichotomy i k with hi | hi | hi
  · have := h i
    rw [unL_get hi] at this
    rwa [unL_get (show i < k + 1 by omega)]
  · subst hi; exact h2
  · have hl := unL_len a (k + 1)
    have : ivL (unL a (k + 1)) i = 0 := by rw [ivL, List.getD_eq_getElem?_getD, List.getElem?_eq_none (by omega)]; rfl
    omega
theorem small_pre {a : List Int} {k n : Nat} (hk : k ≤ n) (h : smallL (unL a n)) : smallL (unL a k) := fun i => by
  by_cases hi : i < k
  · have := h i
    rw [unL_get (show i < n by omega)] at this
    rwa [unL_get hi]
  · have hl := unL_len a k
    have : ivL (unL a k) i = 0 := by rw [ivL, List.getD_eq_getElem?_getD, List.getElem?_eq_none (by omega)]; rfl
    omega
theorem un_search (a : List Int) : ∀ k, smallL (unL a k) ∨ ∃ G, 1 ≤ G ∧ G ≤ k ∧ goodG a G ∧ ¬ (-1000000 ≤ ivL (unL a G) (G - 1) ∧ ivL (unL a G) (G - 1) ≤ 1000000)
  | 0 => .inl fun i => by have : ivL (unL a 0) i = 0 := rfl; omega
  | k + 1 => by
    rcases un_search a k with h | ⟨G, h1, h2, h3⟩
    · by_cases h2 : -1000000 ≤ ivL (unL a (k + 1)) k ∧ ivL (unL a (k + 1)) k ≤ 1000000
      · exact .inl (small_succ h h2)
      · exact .inr ⟨k + 1, by omega, Nat.le_refl _, h, h2⟩
    · exact .inr ⟨G, h1, by omega, h3⟩
theorem un_far {a : List Int} {L : Nat} (h1 : 1 ≤ L) (hL : L ≤ 200) : (tabB (unL a L) = true ∧ goodG a L) ∨ (tabB (unL a L) = false ∧ ∃ G, 1 ≤ G ∧ G ≤ L ∧ goodG a G ∧ ¬ (-1000000 ≤ ivL (unL a G) (G - 1) ∧ ivL (unL a G) (G - 1) ≤ 1000000)) := by
  rcases un_search a L with h | ⟨G, g1, g2, g3, g4⟩
  · refine .inl ⟨?_, small_pre (by omega) h⟩
    rw [tabB, unL_len, inB_true.2 ⟨by omega, by omega⟩, Bool.true_and]
    exact allB_true fun k _ => inB_true.2 (h k)
  · refine .inr ⟨?_, G, g1, g2, g3, g4⟩
    rw [tabB, Bool.and_eq_false_iff]
    right
    refine allB_false (k := G - 1) (by rw [unL_len]; omega) (inB_false.2 ?_)
    have := unL_get (a := a) (k := G - 1) (n := L) (by omega)
    rw [this, show G - 1 + 1 = G by omega]
    exact g4
end Go.Proofs.Ytaapfapejekkfaa
