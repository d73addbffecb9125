import Derived.Test.YtehppjdiegoeeaaG0
namespace Go.Proofs.Ytehppjdiegoeeaa
open Go.RowKit
set_option linter.unusedVariables false
set_option linter.unusedSimpArgs false

theorem sq_le {d n : Nat} (h : d * d ≤ n) (hn : n ≤ 1000000000) : d ≤ 31622 := by
  rcases Nat.lt_or_ge d 31623 with h1 | h1
  · omega
  · have := Nat.mul_le_mul h1 h1
    omega

set_option maxRecDepth 100000 in
set_option maxHeartbeats 400000 in
theorem leastFactor_c (x : Int) (w : World) (h : 2 ≤ x) (h2 : x ≤ 1000000000) :
    Calls Try.prog 66 #[.int .i64 x] w fun e w' => e = .returned (.int .i64 (leastF x.toNat : Int)) ∧ w = w' := by
  obtain ⟨n, rfl⟩ := Int.eq_ofNat_of_zero_le (Int.le_trans (by omega) h)
  rw [Int.toNat_natCast]
  go_enter Try.func66, Try.ntmps66
  go_wp2
  go_loop [3] (fun i => ∃ d : Nat, i = .int .i64 (d : Int) ∧ 2 ≤ d ∧ d ≤ 31623 ∧ noneB n d) (fun i => 31624 - (intOf i).toNat)
  case atStart => exact ⟨2, rfl, by omega, by omega, noneB_two n⟩
  case round =>
    obtain ⟨d, rfl, d1, d2, hno⟩ := hrel
    have Hno := Lib.hid hno
    clear hno
    have hs1 : (d : Int) * (d : Int) ≤ 1000014129 := by
      have := Nat.mul_le_mul d2 d2
      have h3 : ((d * d : Nat) : Int) ≤ 1000014129 := by omega
      rwa [Int.natCast_mul] at h3
    have hs0 : 0 ≤ (d : Int) * (d : Int) := Int.mul_nonneg (by omega) (by omega)
    have hz : ((d : Int) == 0) = false := beq_eq_false_iff_ne.2 (by omega)
    by_cases hlt : (d : Int) * (d : Int) ≤ (n : Int)
    · have hlt2 : d * d ≤ n := by have h3 : ((d * d : Nat) : Int) ≤ (n : Int) := by rwa [Int.natCast_mul]
                                  omega
      have hd := sq_le hlt2 (by omega)
      by_cases hm : n % d = 0
      · have Hl := Lib.hid (leastF_hit Hno.out d1 hlt2 hm)
        have hm2 : ((n : Int) % (d : Int) == 0) = true := by rw [← Int.natCast_emod, hm]; rfl
        clear hm hlt2
        go_wp2
        go_ret
        exact ⟨by rw [Hl.out]; rfl, rfl⟩
      · have Hs := Lib.hid (noneB_succ Hno.out hm)
        have hm2 : ((n : Int) % (d : Int) == 0) = false := by rw [← Int.natCast_emod]; exact beq_eq_false_iff_ne.2 (by omega)
        clear hm hlt2
        go_wp2
        go_round
        case rel => exact ⟨d + 1, by go_num, by omega, by omega, Hs.out⟩
        case measure => simp [intOf]; omega
    · have hlt2 : n < d * d := by
        rcases Nat.lt_or_ge n (d * d) with h3 | h3
        · exact h3
        · exact absurd (show (d : Int) * (d : Int) ≤ (n : Int) by rw [← Int.natCast_mul]; omega) hlt
      have Hl := Lib.hid (leastF_end Hno.out hlt2)
      clear hlt2
      go_wp2
      go_ret
      exact ⟨by rw [Hl.out]; rfl, rfl⟩
theorem prime_beq {x : Int} (h : 2 ≤ x) : ((leastF x.toNat : Int) == x) = primeB x.toNat := by
  rw [primeB_of (by omega), Bool.eq_iff_iff, beq_iff_eq, decide_eq_true_eq]
  omega
theorem isFactored_c (n : Int) (w : World) :
    Calls Try.prog 61 #[.int .i64 n] w fun e w' => e = .returned (.bool (inB n 1 1000000000)) ∧ w = w' := by
  by_cases h1 : 1 ≤ n
  · by_cases h2 : n ≤ 1000000000
    · rw [inB_true.2 ⟨h1, h2⟩]
      go_enter Try.func61, Try.ntmps61
      go_wp2
      go_ret
      exact ⟨rfl, rfl⟩
    · rw [inB_false.2 (by omega)]
      go_enter Try.func61, Try.ntmps61
      go_wp2
      go_ret
      exact ⟨rfl, rfl⟩
  · rw [inB_false.2 (by omega)]
    go_enter Try.func61, Try.ntmps61
    go_wp2
    go_ret
    exact ⟨rfl, rfl⟩

def isPOk (n : Int) : Bool := inB n 0 1000000000
def isPV (n : Int) : Bool := isPOk n && primeB n.toNat

def lfOk (n : Int) : Bool := inB n 2 1000000000
def lfV (n : Int) : Int := if lfOk n then (leastF n.toNat : Int) else 0
theorem lfV_no {n : Int} (h : lfOk n = false) : lfV n = 0 := by rw [lfV, h]; rfl
theorem lfV_yes {n : Int} (h : lfOk n = true) : lfV n = (leastF n.toNat : Int) := by rw [lfV, h]; rfl

end Go.Proofs.Ytehppjdiegoeeaa
