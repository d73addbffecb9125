import Derived.Test.YtapjbppkekigaabOV
import Derived.Test.YtapjbppkekigaabOJ
import Derived.Test.YtapjbppkekigaabP2
namespace Go.Proofs.Ytapjbppkekigaab
open Go.RowKit
set_option maxRecDepth 100000
set_option linter.unusedVariables false
set_option linter.unusedSimpArgs false

theorem sumZ_suT {xs : List Int} : ∀ m, m ≤ xs.length → sumZ xs m = suT (fun x => x) xs m
  | 0, _ => rfl
  | m + 1, h => by rw [sumZ, suT_succ (by omega), sumZ_suT m (by omega)]
theorem dsm_congr {f g : Nat → Int} {n : Nat} (h : ∀ d, 1 ≤ d → d ≤ n → f d = g d) : dsm f n = dsm g n := by
  rw [dsm, dsm]
  refine sm_congr fun d d1 d2 => ?_
  rw [h d d1 d2]
theorem rt_small {N : Nat} (h9 : N ≤ 1000000) : rtF N ≤ 1000 := by
  have h := (rtF_parts N).1
  rcases Nat.lt_or_ge 1000 (rtF N) with h1 | h1
  · have : 1001 * 1001 ≤ rtF N * rtF N := Nat.mul_le_mul h1 h1
    omega
  · exact h1
/-- What is asked of one number's divisors. -/
theorem dt_all {N : Nat} (h1 : 1 ≤ N) (h9 : N ≤ 1000000) : ∃ (XS : List Int) (T : Nat) (S D : Int) (W G : Nat → Int),
    (dvD N = XS ∧ toF N = T ∧ sgD N = S ∧ dvS N = D) ∧
    (1 ≤ XS.length ∧ sumZ XS XS.length = D ∧ ivL XS 0 = 1 ∧ ivL XS (XS.length - 1) = (N : Int) ∧ 0 ≤ D ∧ D ≤ 2000000000) ∧
    (∀ k, k < XS.length → ∃ d e : Nat, ivL XS k = (d : Int) ∧ ivL XS (XS.length - 1 - k) = (e : Int) ∧ (d : Int) * (e : Int) = (N : Int) ∧ 1 ≤ d ∧ d ≤ N ∧ (∀ j, k = j + 1 → ∃ c : Nat, ivL XS j = (c : Int) ∧ c < d) ∧ W (k + 1) = W k + totV (d : Int) ∧ G (k + 1) = G k + mobV (d : Int)) ∧
    (W 0 = 0 ∧ G 0 = 0 ∧ W XS.length = (N : Int) ∧ G XS.length = if N = 1 then 1 else 0) ∧
    (∀ k, k ≤ XS.length → -1000000000000000 ≤ W k ∧ W k ≤ 1000000000000000 ∧ -1000000000000000 ≤ G k ∧ G k ≤ 1000000000000000) ∧
    (N ≤ 600 → cpC N N = T) := by
  obtain ⟨a1, a2, a3, a4⟩ := dv_list h1
  have hlen := dvD_len2 h1 (show N ≤ 4000000000 by omega)
  have hS := dvS_le h1
  have hrt := rt_small h9
  have hel : ∀ k, k < (dvD N).length → ∃ d : Nat, ivL (dvD N) k = (d : Int) ∧ 1 ≤ d ∧ d ≤ N := fun k hk => by
    obtain ⟨d, e1, e2, e3, _⟩ := a4 k hk
    exact ⟨d, e1, e2, e3⟩
  have hmem : ∀ x ∈ dvD N, ∃ d : Nat, x = (d : Int) ∧ 1 ≤ d ∧ d ≤ N := fun x hx => by
    obtain ⟨d, e1, e2, e3, _⟩ := dvD_mem.1 hx
    exact ⟨d, e1, e2, e3⟩
  have hok : ∀ d : Nat, 1 ≤ d → d ≤ N → dvOk (d : Int) = true := fun d d1 d2 => inB_true.2 (by omega)
  have bT : ∀ x ∈ dvD N, -((1000000 : Nat) : Int) ≤ totV x ∧ totV x ≤ ((1000000 : Nat) : Int) := fun x hx => by
    obtain ⟨d, rfl, d1, d2⟩ := hmem x hx
    rw [totV_yes (hok d d1 d2)]
    have : toF d ≤ d := toS_le _ (Nat.le_refl _)
    omega
  have bM : ∀ x ∈ dvD N, -((1000000 : Nat) : Int) ≤ mobV x ∧ mobV x ≤ ((1000000 : Nat) : Int) := fun x hx => by
    obtain ⟨d, rfl, d1, d2⟩ := hmem x hx
    rw [mobV_yes (hok d d1 d2), ← sg_same d1]
    have := sgF_bound d
    omega
  refine ⟨dvD N, toF N, sgD N, dvS N, suT totV (dvD N), suT mobV (dvD N), ⟨rfl, rfl, rfl, rfl⟩, ⟨a1, ?_, a2, a3, hS.1, ?_⟩, ?_, ⟨rfl, rfl, ?_, ?_⟩, ?_, ?_⟩
  · rw [sumZ_suT _ (Nat.le_refl _), suT_all, dvS_su]
  · have : rtF N * N ≤ 1000 * 1000000 := Nat.mul_le_mul hrt h9
    omega
  · intro k hk
    obtain ⟨d, d1, d2, d3, d4, d5⟩ := a4 k hk
    obtain ⟨e, e1, e2, e3⟩ := hel ((dvD N).length - 1 - k) (by omega)
    refine ⟨d, e, d1, e1, by rw [← d1, ← e1]; exact d4, d2, d3, fun j hj => ?_, ?_, ?_⟩
    · obtain ⟨c, c1, c2, c3⟩ := hel j (by omega)
      have := d5 j hj
      exact ⟨c, c1, by omega⟩
    · rw [suT_succ hk, d1]
    · rw [suT_succ hk, d1]
  · rw [suT_all, su_dsm (fun d => totV (d : Int)) totV (fun _ => rfl) N, dsm_congr (g := fun d => (toF d : Int)) fun d d1 d2 => totV_yes (hok d d1 d2), dsm_to N h1]
  · rw [suT_all, su_dsm (fun d => mobV (d : Int)) mobV (fun _ => rfl) N, dsm_congr (g := sgF) fun d d1 d2 => by rw [mobV_yes (hok d d1 d2), sg_same d1], dsm_sg N h1]
  · intro k hk
    have b1 := suT_bound bT k hk
    have b2 := suT_bound bM k hk
    omega
  · exact fun h6 => cp_is h1 h6
theorem dt_way {M S : Nat} (m1 : 1 ≤ M) (m9 : M ≤ 1000000) (s9 : S ≤ 20) : ∃ YS : List Int, swF S M = YS ∧ 1 ≤ YS.length ∧ YS.length ≤ S + 1 ∧ ivL YS 0 = (M : Int) ∧
    (∀ i, i + 1 < YS.length → ∃ m : Nat, ivL YS i = (m : Int) ∧ dvOk (m : Int) = true ∧ stpV (m : Int) = ivL YS (i + 1)) ∧
    (∃ z : Nat, ivL YS (YS.length - 1) = (z : Int) ∧ (YS.length < S + 1 → ¬ (1 ≤ z ∧ z ≤ 1000000))) := by
  obtain ⟨a1, a2, a3, a4⟩ := sw_facts S M
  refine ⟨swF S M, rfl, a1, swF_len S M, a2, fun i hi => ?_, ?_⟩
  · obtain ⟨m, b1, b2, b3, b4⟩ := a3 i hi
    have hok : dvOk (m : Int) = true := inB_true.2 (by omega)
    exact ⟨m, b1, hok, by rw [stpV_yes hok, stN_is b2, b4]⟩
  · by_cases h1 : (swF S M).length < S + 1
    · obtain ⟨z, z1, z2⟩ := a4 h1
      exact ⟨z, z1, fun _ => z2⟩
    · by_cases h2 : (swF S M).length = 1
      · exact ⟨M, by rw [h2]; exact a2, fun h => absurd h h1⟩
      · obtain ⟨m, b1, b2, b3, b4⟩ := a3 ((swF S M).length - 2) (by omega)
        exact ⟨stN m, by rw [← b4]; congr 1; omega, fun h => absurd h h1⟩
theorem dt_am {a : Int} (h : amOk a = true) : ∃ o : Nat, amV a = (o : Int) ∧ (o : Int) ≠ a ∧ (o ≤ 1000000 → amOk (o : Int) = true ∧ amV (o : Int) = a) := by
  have h0 := h
  rw [amOk, Bool.and_eq_true] at h0
  obtain ⟨n1, n9⟩ := inB_true.1 h0.1
  obtain ⟨n, rfl⟩ := Int.eq_ofNat_of_zero_le (Int.le_trans (by omega) n1)
  have hb := h0.2
  rw [Int.toNat_natCast, amB, decide_eq_true_eq] at hb
  obtain ⟨b1, b2, b3⟩ := hb
  refine ⟨stN n, amV_yes h, by omega, fun h9 => ?_⟩
  have hok : dvOk (stN n : Int) = true := inB_true.2 (by omega)
  have hb2 : amB (stN n) = true := by
    rw [amB, decide_eq_true_eq, b3]
    exact ⟨fun e => b1 e.symm, by omega, rfl⟩
  have ho : amOk (stN n : Int) = true := by rw [amOk_yes hok]; exact hb2
  exact ⟨ho, by rw [amV_yes ho, b3]⟩
theorem Il_at {w : World} {b off : Nat} {xs : List Int} (h : Il w (some ⟨b, off, none⟩) xs) (hp : 0 < xs.length) : b < w.heap.size ∧ ∀ k, k < xs.length → w.cell? ⟨b, off + k, none⟩ = some (.int .i64 (ivL xs k)) := by
  obtain ⟨b', off', e, h1, h2⟩ := h hp
  cases e
  exact ⟨h1, h2⟩
theorem dt_gcd (N k : Nat) : gcdF (N : Int) (k : Int) = 1 ↔ Nat.gcd N k = 1 := by
  rw [gcdF, Int.toNat_natCast, Int.toNat_natCast]
  omega

end Go.Proofs.Ytapjbppkekigaab
