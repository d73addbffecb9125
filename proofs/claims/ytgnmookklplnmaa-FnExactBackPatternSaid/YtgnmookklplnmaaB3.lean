import Derived.Test.YtgnmookklplnmaaB2
import Derived.IntWalk
namespace Go.Proofs.Ytgnmookklplnmaa
open Go.RowKit
set_option linter.unusedVariables false
set_option linter.unusedSimpArgs false

/-- The greatest common divisor. -/
def gcdF (a b : Int) : Int := (Nat.gcd a.toNat b.toNat : Int)
theorem gcdF_zero (a : Int) (h : 0 ≤ a) : gcdF a 0 = a := by simp [gcdF]; omega
theorem gcdF_step (a b : Int) (ha : 0 ≤ a) (hb : 0 < b) : gcdF b (a % b) = gcdF a b := by
  obtain ⟨x, rfl⟩ := Int.eq_ofNat_of_zero_le ha
  obtain ⟨y, rfl⟩ := Int.eq_ofNat_of_zero_le (Int.le_of_lt hb)
  unfold gcdF
  rw [← Int.natCast_emod, Int.toNat_natCast, Int.toNat_natCast, Int.toNat_natCast, Nat.gcd_comm y, ← Nat.gcd_rec, Nat.gcd_comm]
theorem gcdF_pos (a b : Int) (ha : 1 ≤ a) : 1 ≤ gcdF a b := by
  have : 0 < Nat.gcd a.toNat b.toNat := Nat.gcd_pos_of_pos_left _ (by omega)
  unfold gcdF; omega
theorem gcdF_le (a b : Int) (ha : 1 ≤ a) : gcdF a b ≤ a := by
  have : Nat.gcd a.toNat b.toNat ≤ a.toNat := Nat.gcd_le_left _ (by omega)
  unfold gcdF; omega

set_option maxHeartbeats 800000 in
theorem siCommon_c (a b : Int) (w : World) (h1 : 0 ≤ a) (h2 : a ≤ 1000000000000) (h3 : 0 ≤ b) (h4 : b ≤ 1000000000000) :
    Calls Try.prog 102 #[.int .i64 a, .int .i64 b] w fun en w' => en = .returned (.int .i64 (gcdF a b)) ∧ ∃ n, w' = w.drewN n := by
  go_enter Try.func102, Try.ntmps102
  go_wp2
  go_loopw [0, 1] (fun u v wr => ∃ x y : Int, 0 ≤ x ∧ x ≤ 1000000000000 ∧ 0 ≤ y ∧ y ≤ 1000000000000 ∧ u = .int .i64 x ∧ v = .int .i64 y ∧ gcdF x y = gcdF a b ∧ ∃ n, wr = w.drewN n) (fun _ v _ => (intOf v).toNat)
  case atStart => exact ⟨a, b, h1, h2, h3, h4, rfl, rfl, rfl, 0, rfl⟩
  case round =>
    obtain ⟨x, y, x0, x1, y0, y1, rfl, rfl, hg, n, rfl⟩ := hrel
    have Hg := Lib.hid hg
    clear hg
    by_cases hy : 0 < y
    · have hm0 := Int.emod_nonneg x (b := y) (by omega)
      have hm1 := Int.emod_lt_of_pos x hy
      have hy0 : (y == 0) = false := by simp; omega
      go_wp2_with fail
      go_quiet (fail)
      go_wp2
      go_roundw
      case rel => exact ⟨y, x % y, by omega, by omega, by omega, by omega, rfl, rfl, by rw [gcdF_step x y x0 hy]; exact Hg.out, n + nq, by rw [World.drewN_drewN]⟩
      case measure => simp only [intOf]; omega
    · have hy0 : y = 0 := by omega
      subst hy0
      go_wp2
      go_ret
      exact ⟨by rw [← Hg.out, gcdF_zero x x0]; rfl, n, rfl⟩

set_option maxHeartbeats 800000 in
theorem gcd_c (a b : Int) (w : World) (h1 : 0 ≤ a) (h2 : a ≤ 1000000000000) (h3 : 0 ≤ b) (h4 : b ≤ 1000000000000) :
    Calls Try.prog 103 #[.int .i64 a, .int .i64 b] w fun en w' => en = .returned (.int .i64 (gcdF a b)) ∧ ∃ n, w' = w.drewN n := by
  go_enter Try.func103, Try.ntmps103
  go_wp2
  go_loopw [0, 1] (fun u v wr => ∃ x y : Int, 0 ≤ x ∧ x ≤ 1000000000000 ∧ 0 ≤ y ∧ y ≤ 1000000000000 ∧ u = .int .i64 x ∧ v = .int .i64 y ∧ gcdF x y = gcdF a b ∧ ∃ n, wr = w.drewN n) (fun _ v _ => (intOf v).toNat)
  case atStart => exact ⟨a, b, h1, h2, h3, h4, rfl, rfl, rfl, 0, rfl⟩
  case round =>
    obtain ⟨x, y, x0, x1, y0, y1, rfl, rfl, hg, n, rfl⟩ := hrel
    have Hg := Lib.hid hg
    clear hg
    by_cases hy : 0 < y
    · have hm0 := Int.emod_nonneg x (b := y) (by omega)
      have hm1 := Int.emod_lt_of_pos x hy
      have hy0 : (y == 0) = false := by simp; omega
      have hy1 : (y != 0) = true := by simp; omega
      go_wp2_with fail
      go_quiet (fail)
      go_wp2
      go_roundw
      case rel => exact ⟨y, x % y, by omega, by omega, by omega, by omega, rfl, rfl, by rw [gcdF_step x y x0 hy]; exact Hg.out, n + nq, by rw [World.drewN_drewN]⟩
      case measure => simp only [intOf]; omega
    · have hy0 : y = 0 := by omega
      subst hy0
      have hy1 : ((0 : Int) != 0) = false := by simp
      go_wp2
      go_ret
      exact ⟨by rw [← Hg.out, gcdF_zero x x0]; rfl, n, rfl⟩

/-- A callee that only draws, inside a region that draws. -/
theorem qcallD {P : Program} {f : FuncId} {args : Array Value} {w : World} {n : Nat} {v : Value} (h : Calls P f args (w.drewN n) fun e w' => e = .returned v ∧ ∃ m, w' = (w.drewN n).drewN m) :
    Calls P f args (w.drewN n) fun e w'' => e = .returned v ∧ ∃ m, w'' = w.drewN m := h.mono fun _ _ ⟨he, m, hm⟩ => ⟨he, n + m, by rw [hm, World.drewN_drewN]⟩
theorem below_of_drew {w w' : World} (h : ∃ n, w' = w.drewN n) : Below w.heap.size w w' := by
  obtain ⟨n, rfl⟩ := h
  exact below_drewN (Below.refl _ _) n

/-- a / gcd(a, b) * b. -/
def lcmF (a b : Int) : Int := a / gcdF a b * b
theorem lcm_parts (a b : Int) (ha : 1 ≤ a) (hb : 1 ≤ b) : 1 ≤ a / gcdF a b ∧ a / gcdF a b ≤ a := by
  have h1 := gcdF_pos a b ha
  have h2 := gcdF_le a b ha
  constructor
  · exact (Int.le_ediv_iff_mul_le (by omega)).2 (by omega)
  · exact Int.ediv_le_self _ (by omega)
theorem lcmF_pos (a b : Int) (ha : 1 ≤ a) (hb : 1 ≤ b) : 1 ≤ lcmF a b := by
  have h1 := (lcm_parts a b ha hb).1
  unfold lcmF
  exact Int.le_trans hb (by simpa using Int.mul_le_mul_of_nonneg_right h1 (by omega : (0 : Int) ≤ b))
theorem lcmF_le (a b A B : Int) (ha : 1 ≤ a) (hb : 1 ≤ b) (hA : a ≤ A) (hB : b ≤ B) : lcmF a b ≤ A * B := by
  have h1 := lcm_parts a b ha hb
  unfold lcmF
  exact Int.mul_le_mul (by omega) hB (by omega) (by omega)


/-- The period of rules behind a first period, or 0 if it grows beyond 100000. -/
def perGo : List (Int × Int) → Int → Int
  | [], p => p
  | r :: rs, p => if 100000 < lcmF p r.1 then 0 else perGo rs (lcmF p r.1)
def perF (rs : List (Int × Int)) : Int := perGo rs 1
theorem perGo_drop {rs : List (Int × Int)} {k : Nat} (h : k < rs.length) (p : Int) : perGo (rs.drop k) p = if 100000 < lcmF p (evL rs k) then 0 else perGo (rs.drop (k + 1)) (lcmF p (evL rs k)) := by
  rw [List.drop_eq_getElem_cons h, perGo, evL_ext h]
theorem perGo_end (rs : List (Int × Int)) (p : Int) : perGo (rs.drop rs.length) p = p := by rw [List.drop_length, perGo]
theorem perGo_le (rs : List (Int × Int)) : ∀ p : Int, 1 ≤ p → p ≤ 100000 → (∀ r ∈ rs, 1 ≤ r.1) → 0 ≤ perGo rs p ∧ perGo rs p ≤ 100000 := by
  induction rs with
  | nil => intro p h1 h2 _; rw [perGo]; omega
  | cons r rs ih =>
    intro p h1 h2 hr
    rw [perGo]
    split
    · omega
    · exact ih _ (lcmF_pos p r.1 h1 (hr r (by simp))) (by omega) fun x hx => hr x (by simp [hx])
theorem good_mem {rs : List (Int × Int)} (h : goodL rs = true) : ∀ r ∈ rs, 2 ≤ r.1 ∧ r.1 ≤ 60 ∧ 0 ≤ r.2 ∧ r.2 < r.1 := by
  intro r hr
  obtain ⟨j, hj, rfl⟩ := List.getElem_of_mem hr
  have := okR_at h hj
  rw [evL_ext hj]
  exact this
theorem perF_le {rs : List (Int × Int)} (h : goodL rs = true) : 0 ≤ perF rs ∧ perF rs ≤ 100000 := perGo_le rs 1 (by omega) (by omega) fun r hr => by have := good_mem h r hr; omega


end Go.Proofs.Ytgnmookklplnmaa
