import Derived.Test.YtjoklbkbggdlgaaE1
import Derived.IntWalk
namespace Go.Proofs.Ytjoklbkbggdlgaa
open Go.RowKit
set_option linter.unusedVariables false
set_option linter.unusedSimpArgs false

/-- The greatest common divisor. -/
def gcdF (a b : Int) : Int := (Nat.gcd a.toNat b.toNat : Int)
theorem gcdF_zero (a : Int) (h : 0 ≤ a) : gcdF a 0 = a := by simp [gcdF]; omega
theorem gcdF_step (a b : Int) (ha : 0 ≤ a) (hb : 0 < b) : gcdF b (a % b) = gcdF a b := by
  obtain ⟨x, rfl⟩ := Int.eq_ofNat_of_zero_le ha
  obtain ⟨y, rfl⟩ := Int.eq_ofNat_of_zero_le (Int.le_of_lt hb)
  unfold gcdF
  rw [← Int.natCast_emod, Int.toNat_natCast, Int.toNat_natCast, Int.toNat_natCast, Nat.gcd_comm y, ← Nat.gcd_rec, Nat.gcd_comm]
theorem gcdF_pos (a b : Int) (ha : 1 ≤ a) : 1 ≤ gcdF a b := by
  have : 0 < Nat.gcd a.toNat b.toNat := Nat.gcd_pos_of_pos_left _ (by omega)
  unfold gcdF; omega
theorem gcdF_le (a b : Int) (ha : 1 ≤ a) : gcdF a b ≤ a := by
  have : Nat.gcd a.toNat b.toNat ≤ a.toNat := Nat.gcd_le_left _ (by omega)
  unfold gcdF; omega

set_option maxHeartbeats 800000 in
theorem siCommon_c (a b : Int) (w : World) (h1 : 0 ≤ a) (h2 : a ≤ 1000000000000) (h3 : 0 ≤ b) (h4 : b ≤ 1000000000000) :
    Calls Try.prog 103 #[.int .i64 a, .int .i64 b] w fun en w' => en = .returned (.int .i64 (gcdF a b)) ∧ ∃ n, w' = w.drewN n := by
  go_enter Try.func103, Try.ntmps103
  go_wp2
  go_loopw [0, 1] (fun u v wr => ∃ x y : Int, 0 ≤ x ∧ x ≤ 1000000000000 ∧ 0 ≤ y ∧ y ≤ 1000000000000 ∧ u = .int .i64 x ∧ v = .int .i64 y ∧ gcdF x y = gcdF a b ∧ ∃ n, wr = w.drewN n) (fun _ v _ => (intOf v).toNat)
  case atStart => exact ⟨a, b, h1, h2, h3, h4, rfl, rfl, rfl, 0, rfl⟩
  case round =>
    obtain ⟨x, y, x0, x1, y0, y1, rfl, rfl, hg, n, rfl⟩ := hrel
    have Hg := Lib.hid hg
    clear hg
    by_cases hy : 0 < y
    · have hm0 := Int.emod_nonneg x (b := y) (by omega)
      have hm1 := Int.emod_lt_of_pos x hy
      have hy0 : (y == 0) = false := by simp; omega
      go_wp2_with fail
      go_quiet (fail)
      go_wp2
      go_roundw
      case rel => exact ⟨y, x % y, by omega, by omega, by omega, by omega, rfl, rfl, by rw [gcdF_step x y x0 hy]; exact Hg.out, n + nq, by rw [World.drewN_drewN]⟩
      case measure => simp only [intOf]; omega
    · have hy0 : y = 0 := by omega
      subst hy0
      go_wp2
      go_ret
      exact ⟨by rw [← Hg.out, gcdF_zero x x0]; rfl, n, rfl⟩

set_option maxHeartbeats 800000 in
theorem gcd_c (a b : Int) (w : World) (h1 : 0 ≤ a) (h2 : a ≤ 1000000000000) (h3 : 0 ≤ b) (h4 : b ≤ 1000000000000) :
    Calls Try.prog 108 #[.int .i64 a, .int .i64 b] w fun en w' => en = .returned (.int .i64 (gcdF a b)) ∧ ∃ n, w' = w.drewN n := by
  go_enter Try.func108, Try.ntmps108
  go_wp2
  go_loopw [0, 1] (fun u v wr => ∃ x y : Int, 0 ≤ x ∧ x ≤ 1000000000000 ∧ 0 ≤ y ∧ y ≤ 1000000000000 ∧ u = .int .i64 x ∧ v = .int .i64 y ∧ gcdF x y = gcdF a b ∧ ∃ n, wr = w.drewN n) (fun _ v _ => (intOf v).toNat)
  case atStart => exact ⟨a, b, h1, h2, h3, h4, rfl, rfl, rfl, 0, rfl⟩
  case round =>
    obtain ⟨x, y, x0, x1, y0, y1, rfl, rfl, hg, n, rfl⟩ := hrel
    have Hg := Lib.hid hg
    clear hg
    by_cases hy : 0 < y
    · have hm0 := Int.emod_nonneg x (b := y) (by omega)
      have hm1 := Int.emod_lt_of_pos x hy
      have hy0 : (y == 0) = false := by simp; omega
      have hy1 : (y != 0) = true := by simp; omega
      go_wp2_with fail
      go_quiet (fail)
      go_wp2
      go_roundw
      case rel => exact ⟨y, x % y, by omega, by omega, by omega, by omega, rfl, rfl, by rw [gcdF_step x y x0 hy]; exact Hg.out, n + nq, by rw [World.drewN_drewN]⟩
      case measure => simp only [intOf]; omega
    · have hy0 : y = 0 := by omega
      subst hy0
      have hy1 : ((0 : Int) != 0) = false := by simp
      go_wp2
      go_ret
      exact ⟨by rw [← Hg.out, gcdF_zero x x0]; rfl, n, rfl⟩

end Go.Proofs.Ytjoklbkbggdlgaa
