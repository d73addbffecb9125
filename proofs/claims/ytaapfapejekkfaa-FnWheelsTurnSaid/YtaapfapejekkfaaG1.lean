import Derived.Test.YtaapfapejekkfaaG0
namespace Go.Proofs.Ytaapfapejekkfaa
open Go.RowKit
set_option linter.unusedVariables false
set_option linter.unusedSimpArgs false

theorem sq_le {d n : Nat} (h : d * d ≤ n) (hn : n ≤ 1000000000) : d ≤ 31622 := by
  rcases Nat.lt_or_ge d 31623 with h1 | h1
  · omega
  · have := Nat.mul_le_mul h1 h1
    omega

set_option maxRecDepth 100000 in
set_option maxHeartbeats 400000 in
theorem prLeast_c (x : Int) (w : World) (h : 2 ≤ x) (h2 : x ≤ 1000000000) :
    Calls Try.prog 188 #[.int .i64 x] w fun e w' => e = .returned (.int .i64 (leastF x.toNat : Int)) ∧ w = w' := by
  obtain ⟨n, rfl⟩ := Int.eq_ofNat_of_zero_le (Int.le_trans (by omega) h)
  rw [Int.toNat_natCast]
  go_enter Try.func188, Try.ntmps188
  go_wp2
  go_loop [3] (fun i => ∃ d : Nat, i = .int .i64 (d : Int) ∧ 2 ≤ d ∧ d ≤ 31623 ∧ noneB n d) (fun i => 31624 - (intOf i).toNat)
  case atStart => exact ⟨2, rfl, by omega, by omega, noneB_two n⟩
  case round =>
    obtain ⟨d, rfl, d1, d2, hno⟩ := hrel
    have Hno := Lib.hid hno
    clear hno
    have hs1 : (d : Int) * (d : Int) ≤ 1000014129 := by
      have := Nat.mul_le_mul d2 d2
      have h3 : ((d * d : Nat) : Int) ≤ 1000014129 := by omega
      rwa [Int.natCast_mul] at h3
    have hs0 : 0 ≤ (d : Int) * (d : Int) := Int.mul_nonneg (by omega) (by omega)
    have hz : ((d : Int) == 0) = false := beq_eq_false_iff_ne.2 (by omega)
    by_cases hlt : (d : Int) * (d : Int) ≤ (n : Int)
    · have hlt2 : d * d ≤ n := by have h3 : ((d * d : Nat) : Int) ≤ (n : Int) := by rwa [Int.natCast_mul]
                                  omega
      have hd := sq_le hlt2 (by omega)
      by_cases hm : n % d = 0
      · have Hl := Lib.hid (leastF_hit Hno.out d1 hlt2 hm)
        have hm2 : ((n : Int) % (d : Int) == 0) = true := by rw [← Int.natCast_emod, hm]; rfl
        clear hm hlt2
        go_wp2
        go_ret
        exact ⟨by rw [Hl.out]; rfl, rfl⟩
      · have Hs := Lib.hid (noneB_succ Hno.out hm)
        have hm2 : ((n : Int) % (d : Int) == 0) = false := by rw [← Int.natCast_emod]; exact beq_eq_false_iff_ne.2 (by omega)
        clear hm hlt2
        go_wp2
        go_round
        case rel => exact ⟨d + 1, by go_num, by omega, by omega, Hs.out⟩
        case measure => simp [intOf]; omega
    · have hlt2 : n < d * d := by
        rcases Nat.lt_or_ge n (d * d) with h3 | h3
        · exact h3
        · exact absurd (show (d : Int) * (d : Int) ≤ (n : Int) by rw [← Int.natCast_mul]; omega) hlt
      have Hl := Lib.hid (leastF_end Hno.out hlt2)
      clear hlt2
      go_wp2
      go_ret
      exact ⟨by rw [Hl.out]; rfl, rfl⟩
set_option maxRecDepth 100000 in
set_option maxHeartbeats 400000 in
theorem leastFactor_c (x : Int) (w : World) (h : 2 ≤ x) (h2 : x ≤ 1000000000) :
    Calls Try.prog 187 #[.int .i64 x] w fun e w' => e = .returned (.int .i64 (leastF x.toNat : Int)) ∧ w = w' := by
  obtain ⟨n, rfl⟩ := Int.eq_ofNat_of_zero_le (Int.le_trans (by omega) h)
  rw [Int.toNat_natCast]
  go_enter Try.func187, Try.ntmps187
  go_wp2
  go_loop [3] (fun i => ∃ d : Nat, i = .int .i64 (d : Int) ∧ 2 ≤ d ∧ d ≤ 31623 ∧ noneB n d) (fun i => 31624 - (intOf i).toNat)
  case atStart => exact ⟨2, rfl, by omega, by omega, noneB_two n⟩
  case round =>
    obtain ⟨d, rfl, d1, d2, hno⟩ := hrel
    have Hno := Lib.hid hno
    clear hno
    have hs1 : (d : Int) * (d : Int) ≤ 1000014129 := by
      have := Nat.mul_le_mul d2 d2
      have h3 : ((d * d : Nat) : Int) ≤ 1000014129 := by omega
      rwa [Int.natCast_mul] at h3
    have hs0 : 0 ≤ (d : Int) * (d : Int) := Int.mul_nonneg (by omega) (by omega)
    have hz : ((d : Int) == 0) = false := beq_eq_false_iff_ne.2 (by omega)
    by_cases hlt : (d : Int) * (d : Int) ≤ (n : Int)
    · have hlt2 : d * d ≤ n := by have h3 : ((d * d : Nat) : Int) ≤ (n : Int) := by rwa [Int.natCast_mul]
                                  omega
      have hd := sq_le hlt2 (by omega)
      by_cases hm : n % d = 0
      · have Hl := Lib.hid (leastF_hit Hno.out d1 hlt2 hm)
        have hm2 : ((n : Int) % (d : Int) == 0) = true := by rw [← Int.natCast_emod, hm]; rfl
        clear hm hlt2
        go_wp2
        go_ret
        exact ⟨by rw [Hl.out]; rfl, rfl⟩
      · have Hs := Lib.hid (noneB_succ Hno.out hm)
        have hm2 : ((n : Int) % (d : Int) == 0) = false := by rw [← Int.natCast_emod]; exact beq_eq_false_iff_ne.2 (by omega)
        clear hm hlt2
        go_wp2
        go_round
        case rel => exact ⟨d + 1, by go_num, by omega, by omega, Hs.out⟩
        case measure => simp [intOf]; omega
    · have hlt2 : n < d * d := by
        rcases Nat.lt_or_ge n (d * d) with h3 | h3
        · exact h3
        · exact absurd (show (d : Int) * (d : Int) ≤ (n : Int) by rw [← Int.natCast_mul]; omega) hlt
      have Hl := Lib.hid (leastF_end Hno.out hlt2)
      clear hlt2
      go_wp2
      go_ret
      exact ⟨by rw [Hl.out]; rfl, rfl⟩
theorem prime_beq {x : Int} (h : 2 ≤ x) : ((leastF x.toNat : Int) == x) = primeB x.toNat := by
  rw [primeB_of (by omega), Bool.eq_iff_iff, beq_iff_eq, decide_eq_true_eq]
  omega
set_option maxRecDepth 100000 in
theorem prIs_c (x : Int) (w : World) (h2 : x ≤ 1000000000) :
    Calls Try.prog 191 #[.int .i64 x] w fun e w' => e = .returned (.bool (primeB x.toNat)) ∧ w = w' := by
  by_cases h : 2 ≤ x
  · have Hb := Lib.hid (prime_beq h)
    go_enter Try.func191, Try.ntmps191
    go_wp2_with fail
    refine (prLeast_c _ _ h h2).mono ?_
    rintro e w1 ⟨rfl, rfl⟩
    go_wp2
    go_ret
    exact ⟨by rw [Hb.out]; rfl, rfl⟩
  · rw [primeB_small (by omega)]
    go_enter Try.func191, Try.ntmps191
    go_wp2
    go_ret
    exact ⟨rfl, rfl⟩
set_option maxRecDepth 100000 in
theorem isPrime_c (x : Int) (w : World) (h2 : x ≤ 1000000000) :
    Calls Try.prog 189 #[.int .i64 x] w fun e w' => e = .returned (.bool (primeB x.toNat)) ∧ w = w' := by
  by_cases h : 2 ≤ x
  · have Hb := Lib.hid (prime_beq h)
    go_enter Try.func189, Try.ntmps189
    go_wp2_with fail
    refine (leastFactor_c _ _ h h2).mono ?_
    rintro e w1 ⟨rfl, rfl⟩
    go_wp2
    go_ret
    exact ⟨by rw [Hb.out]; rfl, rfl⟩
  · rw [primeB_small (by omega)]
    go_enter Try.func189, Try.ntmps189
    go_wp2
    go_ret
    exact ⟨rfl, rfl⟩
theorem prFactored_c (n : Int) (w : World) :
    Calls Try.prog 184 #[.int .i64 n] w fun e w' => e = .returned (.bool (inB n 1 1000000000)) ∧ w = w' := by
  go_enter Try.func184, Try.ntmps184
  go_wp2_with (go_at_call 190; refine (l1In_c _ _ _ _).mono ?_; rintro e w' ⟨rfl, rfl⟩)
  go_ret
  exact ⟨rfl, rfl⟩
theorem isFactored_c (n : Int) (w : World) :
    Calls Try.prog 181 #[.int .i64 n] w fun e w' => e = .returned (.bool (inB n 1 1000000000)) ∧ w = w' := by
  by_cases h1 : 1 ≤ n
  · by_cases h2 : n ≤ 1000000000
    · rw [inB_true.2 ⟨h1, h2⟩]
      go_enter Try.func181, Try.ntmps181
      go_wp2
      go_ret
      exact ⟨rfl, rfl⟩
    · rw [inB_false.2 (by omega)]
      go_enter Try.func181, Try.ntmps181
      go_wp2
      go_ret
      exact ⟨rfl, rfl⟩
  · rw [inB_false.2 (by omega)]
    go_enter Try.func181, Try.ntmps181
    go_wp2
    go_ret
    exact ⟨rfl, rfl⟩

def isPOk (n : Int) : Bool := inB n 0 1000000000
def isPV (n : Int) : Bool := isPOk n && primeB n.toNat
set_option maxRecDepth 100000 in
set_option maxHeartbeats 400000 in
theorem spec_IsPrime_c (w : World) (n : Int) :
    Calls Try.prog 36 #[.int .i64 n] w fun en w' => en = .returned (.tuple #[.bool (isPV n), .bool (isPOk n)]) ∧ Below w.heap.size w w' := by
  cases hg : inB n 0 1000000000 with
  | false =>
    have ho : isPOk n = false := hg
    rw [show isPV n = false by simp [isPV, ho], ho]
    clear ho
    go_enter Try.func36, Try.ntmps36
    go_wp2_with fail
    refine (l1In_c _ _ _ _).mono ?_
    rintro e w1 ⟨rfl, rfl⟩
    go_wp2
    go_ret2
    exact ⟨rfl, (Below.refl _ _)⟩
  | true =>
    have ho : isPOk n = true := hg
    rw [show isPV n = primeB n.toNat by simp [isPV, ho], ho]
    clear ho
    have hn := (inB_true.1 hg).2
    have Hg := Lib.hid hg
    go_enter Try.func36, Try.ntmps36
    go_wp2_with fail
    refine (l1In_c _ _ _ _).mono ?_
    rintro e w1 ⟨rfl, rfl⟩
    go_wp2_with fail
    refine (prIs_c _ _ hn).mono ?_
    rintro e w2 ⟨rfl, rfl⟩
    go_wp2
    go_ret2
    exact ⟨rfl, (Below.refl _ _)⟩
set_option maxRecDepth 100000 in
set_option maxHeartbeats 400000 in
theorem impl_IsPrime_c (w : World) (n : Int) :
    Calls Try.prog 35 #[.int .i64 n] w fun en w' => en = .returned (.tuple #[.bool (isPV n), .bool (isPOk n)]) ∧ Below w.heap.size w w' := by
  by_cases hg : 0 ≤ n
  rotate_left
  · skip
    have ho : isPOk n = false := inB_false.2 (by omega)
    rw [show isPV n = false by simp [isPV, ho], ho]
    clear ho
    go_enter Try.func35, Try.ntmps35
    go_wp2
    go_ret2
    exact ⟨rfl, (Below.refl _ _)⟩
  · skip
    by_cases hh : n ≤ 1000000000
    rotate_left
    · skip
      have ho : isPOk n = false := inB_false.2 (by omega)
      rw [show isPV n = false by simp [isPV, ho], ho]
      clear ho
      go_enter Try.func35, Try.ntmps35
      go_wp2
      go_ret2
      exact ⟨rfl, (Below.refl _ _)⟩
    · skip
      have ho : isPOk n = true := inB_true.2 (by omega)
      rw [show isPV n = primeB n.toNat by simp [isPV, ho], ho]
      clear ho
      go_enter Try.func35, Try.ntmps35
      go_wp2_with fail
      refine (isPrime_c _ _ hh).mono ?_
      rintro e w1 ⟨rfl, rfl⟩
      go_wp2
      go_ret2
      exact ⟨rfl, (Below.refl _ _)⟩

def lfOk (n : Int) : Bool := inB n 2 1000000000
def lfV (n : Int) : Int := if lfOk n then (leastF n.toNat : Int) else 0
theorem lfV_no {n : Int} (h : lfOk n = false) : lfV n = 0 := by rw [lfV, h]; rfl
theorem lfV_yes {n : Int} (h : lfOk n = true) : lfV n = (leastF n.toNat : Int) := by rw [lfV, h]; rfl
set_option maxRecDepth 100000 in
set_option maxHeartbeats 400000 in
theorem spec_LeastFactor_c (w : World) (n : Int) :
    Calls Try.prog 34 #[.int .i64 n] w fun en w' => en = .returned (.tuple #[.int .i64 (lfV n), .bool (lfOk n)]) ∧ Below w.heap.size w w' := by
  cases hg : inB n 1 1000000000 with
  | false =>
    have ho : lfOk n = false := inB_false.2 (by first | (have := inB_false.1 hg; omega) | omega)
    rw [lfV_no ho, ho]
    clear ho
    go_enter Try.func34, Try.ntmps34
    go_wp2_with fail
    refine (prFactored_c _ _).mono ?_
    rintro e w1 ⟨rfl, rfl⟩
    go_wp2
    go_ret2
    exact ⟨rfl, (Below.refl _ _)⟩
  | true =>
    by_cases hh : 2 ≤ n
    rotate_left
    · skip
      have ho : lfOk n = false := inB_false.2 (by first | (have := inB_false.1 hg; omega) | omega)
      rw [lfV_no ho, ho]
      clear ho
      go_enter Try.func34, Try.ntmps34
      go_wp2_with fail
      refine (prFactored_c _ _).mono ?_
      rintro e w1 ⟨rfl, rfl⟩
      go_wp2
      go_ret2
      exact ⟨rfl, (Below.refl _ _)⟩
    · skip
      have ho : lfOk n = true := inB_true.2 (by have := inB_true.1 hg; omega)
      rw [lfV_yes ho, ho]
      clear ho
      have hn := (inB_true.1 hg).2
      have Hg := Lib.hid hg
      go_enter Try.func34, Try.ntmps34
      go_wp2_with fail
      refine (prFactored_c _ _).mono ?_
      rintro e w1 ⟨rfl, rfl⟩
      go_wp2_with fail
      refine (prLeast_c _ _ hh hn).mono ?_
      rintro e w2 ⟨rfl, rfl⟩
      go_wp2
      go_ret2
      exact ⟨rfl, (Below.refl _ _)⟩
set_option maxRecDepth 100000 in
set_option maxHeartbeats 400000 in
theorem impl_LeastFactor_c (w : World) (n : Int) :
    Calls Try.prog 33 #[.int .i64 n] w fun en w' => en = .returned (.tuple #[.int .i64 (lfV n), .bool (lfOk n)]) ∧ Below w.heap.size w w' := by
  by_cases hg : 2 ≤ n
  rotate_left
  · skip
    have ho : lfOk n = false := inB_false.2 (by omega)
    rw [lfV_no ho, ho]
    clear ho
    go_enter Try.func33, Try.ntmps33
    go_wp2
    go_ret2
    exact ⟨rfl, (Below.refl _ _)⟩
  · skip
    by_cases hh : n ≤ 1000000000
    rotate_left
    · skip
      have ho : lfOk n = false := inB_false.2 (by omega)
      rw [lfV_no ho, ho]
      clear ho
      go_enter Try.func33, Try.ntmps33
      go_wp2
      go_ret2
      exact ⟨rfl, (Below.refl _ _)⟩
    · skip
      have ho : lfOk n = true := inB_true.2 (by omega)
      rw [lfV_yes ho, ho]
      clear ho
      go_enter Try.func33, Try.ntmps33
      go_wp2_with fail
      refine (leastFactor_c _ _ hg hh).mono ?_
      rintro e w1 ⟨rfl, rfl⟩
      go_wp2
      go_ret2
      exact ⟨rfl, (Below.refl _ _)⟩

end Go.Proofs.Ytaapfapejekkfaa
