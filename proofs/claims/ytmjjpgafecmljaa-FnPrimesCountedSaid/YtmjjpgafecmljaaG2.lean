import Derived.Test.YtmjjpgafecmljaaG1
namespace Go.Proofs.Ytmjjpgafecmljaa
open Go.RowKit
set_option linter.unusedVariables false
set_option linter.unusedSimpArgs false

set_option maxRecDepth 100000 in
set_option maxHeartbeats 800000 in
theorem prBetween_c (w : World) (lo hi : Nat) (hh : hi ≤ 1000000000) (hd : hi + 1 - lo ≤ 100000) :
    Calls Try.prog 129 #[.int .i64 (lo : Int), .int .i64 (hi : Int)] w fun en w' => (∃ v, en = .returned v ∧ OwnI w' w.heap.size v (prB lo hi)) ∧ Below w.heap.size w w' := by
  unfold prB
  obtain ⟨L, hL⟩ : ∃ L, hi + 1 - lo = L := ⟨_, rfl⟩
  rw [hL] at hd ⊢
  have HL := Lib.hid hL
  clear hL
  go_enter Try.func129, Try.ntmps129
  go_wp2
  go_loopw [5, 6] (fun v i wr => ∃ k : Nat, k ≤ L ∧ i = .int .i64 ((lo : Int) + (k : Int)) ∧ OwnI wr w.heap.size v (flF primeB lo k) ∧ Below w.heap.size w wr) (fun _ i _ => lo + L - (intOf i).toNat)
  case atStart => exact ⟨0, Nat.zero_le _, by simp, World.ownsRow_nil _ _ _ _, Below.refl _ _⟩
  case round =>
    rename_i v
    obtain ⟨k, hk, rfl, hown, hbel⟩ := hrel
    have Hown := Lib.hid hown
    clear hown
    have hs := hbel.size
    have e1 : (lo : Int) + ((k + 1 : Nat) : Int) = (lo : Int) + (k : Int) + 1 := by omega
    have e2 : ((lo : Int) + (k : Int)).toNat = lo + k := by omega
    have E1 := Lib.hid e1
    have E2 := Lib.hid e2
    clear e1 e2
    by_cases hlt : k < L
    · have hlt2 : (lo : Int) + (k : Int) ≤ (hi : Int) := by have := HL.out; omega
      have hul := flF_len primeB lo k
      have Hl := Lib.hid (show (flF primeB lo k).length ≤ 1048575 by omega)
      clear hul
      cases hp : primeB (lo + k) with
      | true =>
        have Hy := Lib.hid (flF_yes hp)
        go_wp2_with fail
        refine (prIs_c _ _ (by omega)).mono ?_
        rw [E2.out, hp]
        rintro e w1 ⟨rfl, rfl⟩
        go_wp2_with (at_builtin; refine wp_app_int _ rfl _ _ rfl w.heap.size _ _ rfl Hown.out _ rfl (by have := Hl.out; omega) (by omega) ?_; intro v' w2 hown2 b2)
        go_roundw
        case rel => exact ⟨k + 1, by omega, by rw [E1.out], by rw [Hy.out, Int.natCast_add]; exact hown2, hbel.trans b2⟩
        case measure => simp [intOf]; omega
      | false =>
        have Hy := Lib.hid (flF_no hp)
        go_wp2_with fail
        refine (prIs_c _ _ (by omega)).mono ?_
        rw [E2.out, hp]
        rintro e w1 ⟨rfl, rfl⟩
        go_wp2
        go_roundw
        case rel => exact ⟨k + 1, by omega, by rw [E1.out], by rw [Hy.out]; exact Hown.out, hbel⟩
        case measure => simp [intOf]; omega
    · have hlt2 : (hi : Int) < (lo : Int) + (k : Int) := by have := HL.out; omega
      go_wp2
      go_ret
      have hkM : k = L := by omega
      subst hkM
      exact ⟨⟨_, rfl, Hown.out⟩, hbel⟩

theorem info_Bo : (Try.prog.info? 4).map (fun i => (i.zero, i.size, i.bytes)) = some (some (.bool false), 1, 1) := by kernel_rfl
/-- The multiples of d from m on, below the number n. -/
theorem mul_first {lo d n : Nat} (hd : 0 < d) (h : lo ≤ n) (h2 : n % d = 0) : (lo + d - 1) / d * d ≤ n := by
  have h3 : n = n / d * d := by have := Nat.div_add_mod n d; rw [h2, Nat.mul_comm] at this; omega
  rw [h3]
  apply Nat.mul_le_mul_right
  rw [Nat.div_le_iff_le_mul_add_pred hd]
  rw [Nat.mul_comm]
  omega
theorem mul_first_ge {lo d : Nat} (hd : 0 < d) : lo ≤ (lo + d - 1) / d * d := by
  have := Nat.div_add_mod (lo + d - 1) d
  have h2 := Nat.mod_lt (lo + d - 1) hd
  rw [Nat.mul_comm] at this
  omega
/-- The marks while the multiples of d are marked, those below m done. -/
def mkB (d m n : Nat) : Bool := anyD n d || (decide (n < m) && decide (d * d ≤ n ∧ n % d = 0))
theorem mkB_start {lo d n : Nat} (hd : 2 ≤ d) (h : lo ≤ n) : mkB d (max (d * d) ((lo + d - 1) / d * d)) n = anyD n d := by
  unfold mkB
  by_cases h1 : d * d ≤ n ∧ n % d = 0
  · have h2 := mul_first (by omega) h h1.2
    have : ¬ n < max (d * d) ((lo + d - 1) / d * d) := by omega
    rw [decide_eq_false this, Bool.false_and, Bool.or_false]
  · simp [h1]
theorem mkB_end {d m n : Nat} (hd : 2 ≤ d) (h : n < m) : mkB d m n = anyD n (d + 1) := by
  rw [mkB, anyD_succ]
  simp [h, hd]
theorem mkB_hit {d m : Nat} (h1 : d * d ≤ m) (h2 : m % d = 0) (hd : 2 ≤ d) : mkB d (m + d) m = true := by
  unfold mkB
  simp [h1, h2]
  omega
theorem mkB_other {d m n : Nat} (h2 : m % d = 0) (hd : 2 ≤ d) (hn : n ≠ m) : mkB d (m + d) n = mkB d m n := by
  unfold mkB
  by_cases h1 : d * d ≤ n ∧ n % d = 0
  · have h3 : n < m + d ↔ n < m := by
      constructor
      · intro h4
        rcases Nat.lt_or_ge n m with h5 | h5
        · exact h5
        · have h6 : (n - m) % d = 0 := by rw [← Nat.dvd_iff_mod_eq_zero] at *; exact Nat.dvd_sub h1.2 h2
          rw [Nat.mod_eq_of_lt (by omega)] at h6
          omega
      · omega
    simp [h3]
  · simp [h1]

end Go.Proofs.Ytmjjpgafecmljaa
