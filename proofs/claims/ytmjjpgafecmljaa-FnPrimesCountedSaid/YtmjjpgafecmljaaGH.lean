import Derived.Test.YtmjjpgafecmljaaG5
import Derived.Test.YtmjjpgafecmljaaG9
namespace Go.Proofs.Ytmjjpgafecmljaa
open Go.RowKit
set_option linter.unusedVariables false
set_option linter.unusedSimpArgs false

/-- How many of 1, .., n none of the first k primes divides, by the recursion. -/
def wF : Nat → Nat → Int
  | 0, n => n
  | k + 1, n => wF k n - wF k (n / (ivL pr9 k).toNat)
theorem wF_zero : ∀ k, wF k 0 = 0
  | 0 => rfl
  | k + 1 => by rw [wF, Nat.zero_div, wF_zero k]; rfl
theorem wF_bound : ∀ (k n : Nat), -((n * 2 ^ k : Nat) : Int) ≤ wF k n ∧ wF k n ≤ ((n * 2 ^ k : Nat) : Int)
  | 0, n => by rw [wF]; simp
  | k + 1, n => by
    have a := wF_bound k n
    have b := wF_bound k (n / (ivL pr9 k).toNat)
    have h1 : n / (ivL pr9 k).toNat * 2 ^ k ≤ n * 2 ^ k := Nat.mul_le_mul_right _ (Nat.div_le_self _ _)
    have h2 : n * 2 ^ (k + 1) = n * 2 ^ k + n * 2 ^ k := by rw [Nat.pow_succ, ← Nat.mul_assoc, Nat.mul_two]
    rw [wF, h2]
    generalize n / (ivL pr9 k).toNat * 2 ^ k = x at *
    generalize n * 2 ^ k = y at *
    omega
theorem wF_small {k n : Nat} (hk : k ≤ 12) (hn : n ≤ 10000) : -40960000 ≤ wF k n ∧ wF k n ≤ 40960000 := by
  have a := wF_bound k n
  have h1 : 2 ^ k ≤ 2 ^ 12 := Nat.pow_le_pow_right (by omega) hk
  have h2 := Nat.mul_le_mul hn h1
  omega
theorem pr9_at {k : Nat} (h : k < 12) : ∃ p : Nat, ivL pr9 k = (p : Int) ∧ 2 ≤ p ∧ p ≤ 10000 := by
  have hk : k < pr9.length := by rw [pr9_len]; omega
  have e : ivL pr9 k = pr9[k] := by simp [ivL, hk]
  obtain ⟨n, h1, h2, h3, _⟩ := flF_mem.1 (List.getElem_mem hk : pr9[k] ∈ flF primeB 2 9999)
  exact ⟨n, by rw [e, ← h1], h2, by omega⟩

set_option maxRecDepth 100000 in
set_option maxHeartbeats 800000 in
theorem prWithout_c (g c : Nat) : ∀ (k : Nat) (x : Int) (w : World), k ≤ 12 → k ≤ c → 0 ≤ x → x ≤ 10000 → (∀ j, j < k → w.cell? ⟨g, j, none⟩ = some (.int .i64 (ivL pr9 j))) →
    Calls Try.prog 127 #[.int .i64 x, .slice (some ⟨g, 0, none⟩) k c] w fun e w' => e = .returned (.int .i64 (wF k x.toNat)) ∧ ∃ m, w' = w.drewN m := by
  intro k
  induction k with
  | zero =>
    intro x w _ _ h0 h9 _
    obtain ⟨n, rfl⟩ := Int.eq_ofNat_of_zero_le h0
    rw [Int.toNat_natCast]
    go_enter Try.func127, Try.ntmps127
    go_wp2_with fail
    go_ret
    exact ⟨rfl, 0, rfl⟩
  | succ k ih =>
    intro x w hk hc h0 h9 hr
    obtain ⟨n, rfl⟩ := Int.eq_ofNat_of_zero_le h0
    rw [Int.toNat_natCast]
    by_cases hz : n = 0
    · subst hz
      rw [wF_zero]
      go_enter Try.func127, Try.ntmps127
      go_wp2_with fail
      go_ret
      exact ⟨rfl, 0, rfl⟩
    · obtain ⟨p, hp, p1, p2⟩ := pr9_at (k := k) (by omega)
      have hc0 := hr k (by omega)
      rw [hp] at hc0
      have Hw : Hid (wF (k + 1) n = wF k n - wF k (n / p)) := by show _ = _; rw [wF, hp, Int.toNat_natCast]
      have hb1 := wF_small (k := k) (n := n) (by omega) (by omega)
      have hb2 := wF_small (k := k) (n := n / p) (by omega) (Nat.le_trans (Nat.div_le_self _ _) (by omega))
      have Hq : Hid (((n : Int) / (p : Int)).toNat = n / p) := by show _ = _; rw [← Int.natCast_ediv, Int.toNat_natCast]
      have Hc := Lib.hid (fun (nd : Nat) (x : Int) (h1 : 0 ≤ x) (h2 : x ≤ 10000) => ih x (w.drewN nd) (by omega) (by omega) h1 h2 (fun j hj => show (w.drewN nd).cell? ⟨g, j, none⟩ = some (.int .i64 (ivL pr9 j)) from hr j (by omega)))
      have hnp : n / p ≤ 10000 := Nat.le_trans (Nat.div_le_self _ _) (by omega)
      have hb3 : -40960000 ≤ wF k n ∧ wF k n ≤ 40960000 ∧ -40960000 ≤ wF k (n / p) ∧ wF k (n / p) ≤ 40960000 := ⟨hb1.1, hb1.2, hb2.1, hb2.2⟩
      have Hs : Hid (wrap64 (wF k n - wF k (n / p)) = wF k n - wF k (n / p)) := by
        show _ = _
        generalize wF k (n / p) = y at *
        exact IntWalk.wrap64_in _ (by omega)
      have hn0 : ((n : Int) == 0) = false := beq_eq_false_iff_ne.2 (by omega)
      have hk0 : (((k : Int) + 1) == 0) = false := beq_eq_false_iff_ne.2 (by omega)
      have hp0 : ((p : Int) == 0) = false := beq_eq_false_iff_ne.2 (by omega)
      have hq0 : 0 ≤ (n : Int) / (p : Int) := Int.ediv_nonneg (by omega) (by omega)
      have hq1 : (n : Int) / (p : Int) ≤ (n : Int) := Int.ediv_le_self _ (by omega)
      have e1 : IntKind.i64.wrap ((k : Int) + 1 - 1) = (k : Int) := by rw [show (k : Int) + 1 - 1 = (k : Int) by omega]; exact IntWalk.i64_in _ (by omega)
      have hkc : (k : Int) ≤ (c : Int) := by omega
      have hk1 : (0 : Int) ≤ (k : Int) := by omega
      have hk2 : (k : Int) < (k : Int) + 1 := by omega
      clear ih hr hp hb1 hb2 hb3 hnp
      go_enter Try.func127, Try.ntmps127
      go_wp2_with fail
      go_quiet ((go_at_call 127; exact Calls.quiet_of (Hc.out _ _ (by omega) (by omega))))
      clear e1
      go_wp2
      go_ret
      exact ⟨by rw [Hw.out]; exact congrArg (fun z => Ending.returned (Value.int .i64 z)) Hs.out, _, rfl⟩

theorem prWithout_z (A : Option Addr) (c : Nat) (x : Int) (w : World) (h0 : 0 ≤ x) :
    Calls Try.prog 127 #[.int .i64 x, .slice A 0 c] w fun e w' => e = .returned (.int .i64 (wF 0 x.toNat)) ∧ w = w' := by
  obtain ⟨n, rfl⟩ := Int.eq_ofNat_of_zero_le h0
  rw [Int.toNat_natCast]
  go_enter Try.func127, Try.ntmps127
  go_wp2_with fail
  go_ret
  exact ⟨rfl, rfl⟩

def cwOk (n k : Int) : Bool := inB n 0 10000 && inB k 0 12
def cwV (n k : Int) : Int := if cwOk n k then wF k.toNat n.toNat else 0
theorem cwV_no {n k : Int} (h : cwOk n k = false) : cwV n k = 0 := by rw [cwV, h]; rfl
theorem cwV_yes {n : Int} {k : Nat} (h : cwOk n (k : Int) = true) : cwV n (k : Int) = wF k n.toNat := by rw [cwV, h, Int.toNat_natCast]; rfl
set_option maxRecDepth 100000 in
set_option maxHeartbeats 400000 in
theorem spec_CountWithout_c (w : World) (n k : Int) :
    Calls Try.prog 31 #[.int .i64 n, .int .i64 k] w fun en w' => en = .returned (.tuple #[.int .i64 (cwV n k), .bool (cwOk n k)]) ∧ Below w.heap.size w w' := by
  cases hg : inB n 0 10000 with
  | false =>
    have ho : cwOk n k = false := by simp [cwOk, *]
    rw [cwV_no ho, ho]
    clear ho
    go_enter Try.func31, Try.ntmps31
    go_wp2_with fail
    refine (prCounted_c _ _).mono ?_
    rintro e w1 ⟨rfl, rfl⟩
    go_wp2
    go_ret2
    exact ⟨rfl, (Below.refl _ _)⟩
  | true =>
    cases hh : inB k 0 12 with
    | false =>
      have ho : cwOk n k = false := by simp [cwOk, *]
      rw [cwV_no ho, ho]
      clear ho
      go_enter Try.func31, Try.ntmps31
      go_wp2_with fail
      refine (prCounted_c _ _).mono ?_
      rintro e w1 ⟨rfl, rfl⟩
      go_wp2_with fail
      refine (prK_c _ _).mono ?_
      rintro e w2 ⟨rfl, rfl⟩
      go_wp2
      go_ret2
      exact ⟨rfl, (Below.refl _ _)⟩
    | true =>
      have ho : cwOk n k = true := by simp [cwOk, *]
      obtain ⟨n1, n2⟩ := inB_true.1 hg
      obtain ⟨k1, k2⟩ := inB_true.1 hh
      obtain ⟨K, rfl⟩ := Int.eq_ofNat_of_zero_le k1
      rw [cwV_yes ho, ho]
      clear ho
      have Hg := Lib.hid hg
      have Hh := Lib.hid hh
      go_enter Try.func31, Try.ntmps31
      go_wp2_with fail
      refine (prCounted_c _ _).mono ?_
      rintro e w1 ⟨rfl, rfl⟩
      go_wp2_with fail
      refine (prK_c _ _).mono ?_
      rintro e w2 ⟨rfl, rfl⟩
      go_wp2_with fail
      refine (prFirst_c _ K (by omega)).mono ?_
      rintro e w3 ⟨⟨v3, rfl, o3⟩, b3⟩
      have hl : (pr9.take K).length = K := by rw [List.length_take, pr9_len]; omega
      obtain ⟨A, c, rfl⟩ := o3.shape
      have hcap := o3.cap.1
      rw [hl] at o3 hcap ⊢
      by_cases hK : K = 0
      · subst hK
        have HA : Hid (A = none ∨ ∃ g, A = some ⟨g, 0, none⟩) := by
          show _ ∨ _
          rcases o3.2 with ⟨e, _⟩ | ⟨g, cap, cur, e, _⟩
          · simp only [Value.slice.injEq] at e; exact .inl e.1
          · simp only [Value.slice.injEq] at e; exact .inr ⟨g, e.1⟩
        clear o3 hl
        go_wp2_with fail
        refine (prWithout_z A c n _ n1).mono ?_
        rintro e w4 ⟨rfl, rfl⟩
        go_wp2
        go_ret2
        exact ⟨rfl, b3⟩
      · obtain ⟨g, rfl, _, hg2⟩ := own_form (OwnI.own_n o3 hl.symm) (by omega)
        have Hr := Lib.hid (fun j (hj : j < K) => show w3.cell? ⟨g, j, none⟩ = some (.int .i64 (ivL pr9 j)) by
          obtain ⟨g', e', _, _, hc⟩ := o3.cell (j := j) (by omega)
          injection e' with e'
          injection e' with e'
          subst e'
          rw [hc]
          exact congrArg (fun z => some (Value.int .i64 z)) (ivL_take (xs := pr9) hj))
        clear o3 hl
        go_wp2_with fail
        refine (prWithout_c g c K n w3 (by omega) hcap n1 n2 Hr.out).mono ?_
        rintro e w4 ⟨rfl, m4, rfl⟩
        go_wp2
        go_ret2
        exact ⟨rfl, below_drewN b3 _⟩

set_option maxRecDepth 100000 in
set_option maxHeartbeats 800000 in
theorem without_c (bf bp g c K : Nat) (hK : K ≤ 12) : ∀ (k : Nat) (x : Int) (w : World), k ≤ K → 0 ≤ x → x ≤ 10000 →
    w.cell? ⟨bf, 0, none⟩ = some (.func (.func 124) #[] #[.pointer (some ⟨bf, 0, none⟩), .pointer (some ⟨bp, 0, none⟩)]) → w.cell? ⟨bp, 0, none⟩ = some (.slice (some ⟨g, 0, none⟩) K c) →
    (∀ j, j < K → w.cell? ⟨g, j, none⟩ = some (.int .i64 (ivL pr9 j))) →
    Calls Try.prog 124 #[.int .i64 x, .int .i64 (k : Int), .pointer (some ⟨bf, 0, none⟩), .pointer (some ⟨bp, 0, none⟩)] w fun e w' => e = .returned (.int .i64 (wF k x.toNat)) ∧ ∃ m, w' = w.drewN m := by
  intro k
  induction k with
  | zero =>
    intro x w _ h0 h9 _ _ _
    obtain ⟨n, rfl⟩ := Int.eq_ofNat_of_zero_le h0
    rw [Int.toNat_natCast]
    go_enter Try.func124, Try.ntmps124
    go_wp2_with fail
    go_ret
    exact ⟨rfl, 0, rfl⟩
  | succ k ih =>
    intro x w hk h0 h9 hf hp' hr
    obtain ⟨n, rfl⟩ := Int.eq_ofNat_of_zero_le h0
    rw [Int.toNat_natCast]
    obtain ⟨p, hp, p1, p2⟩ := pr9_at (k := k) (by omega)
    have hc0 := hr k (by omega)
    rw [hp] at hc0
    have Hw : Hid (wF (k + 1) n = wF k n - wF k (n / p)) := by show _ = _; rw [wF, hp, Int.toNat_natCast]
    have hb1 := wF_small (k := k) (n := n) (by omega) (by omega)
    have hb2 := wF_small (k := k) (n := n / p) (by omega) (Nat.le_trans (Nat.div_le_self _ _) (by omega))
    have Hc := Lib.hid (fun (nd : Nat) (x : Int) (h1 : 0 ≤ x) (h2 : x ≤ 10000) => ih x (w.drewN nd) (by omega) h1 h2 hf hp' hr)
    have hb3 : -40960000 ≤ wF k n ∧ wF k n ≤ 40960000 ∧ -40960000 ≤ wF k (n / p) ∧ wF k (n / p) ≤ 40960000 := ⟨hb1.1, hb1.2, hb2.1, hb2.2⟩
    have Hs : Hid (wrap64 (wF k n - wF k (n / p)) = wF k n - wF k (n / p)) := by
      show _ = _
      generalize wF k (n / p) = y at *
      exact IntWalk.wrap64_in _ (by omega)
    have hk0 : (((k : Int) + 1) == 0) = false := beq_eq_false_iff_ne.2 (by omega)
    have hp0 : ((p : Int) == 0) = false := beq_eq_false_iff_ne.2 (by omega)
    have hq0 : 0 ≤ (n : Int) / (p : Int) := Int.ediv_nonneg (by omega) (by omega)
    have hq1 : (n : Int) / (p : Int) ≤ (n : Int) := Int.ediv_le_self _ (by omega)
    have e1 : IntKind.i64.wrap ((k : Int) + 1 - 1) = (k : Int) := by rw [show (k : Int) + 1 - 1 = (k : Int) by omega]; exact IntWalk.i64_in _ (by omega)
    have hkK : k < K := hk
    have hk1 : (0 : Int) ≤ (k : Int) := by omega
    clear ih hr hp hb1 hb2 hb3
    go_enter Try.func124, Try.ntmps124
    go_wp2_with fail
    go_quiet ((go_at_call 124; exact Calls.quiet_of (Hc.out _ _ (by omega) (by omega))))
    clear e1
    go_wp2
    go_ret
    exact ⟨by rw [Hw.out]; exact congrArg (fun z => Ending.returned (Value.int .i64 z)) Hs.out, _, rfl⟩

end Go.Proofs.Ytmjjpgafecmljaa
