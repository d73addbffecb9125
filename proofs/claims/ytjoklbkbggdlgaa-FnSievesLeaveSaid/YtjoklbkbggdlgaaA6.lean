import Derived.Test.YtjoklbkbggdlgaaL0
namespace Go.Proofs.Ytjoklbkbggdlgaa
open Go.RowKit
set_option linter.unusedVariables false
set_option linter.unusedSimpArgs false

theorem numB_lo {n : Int} (h : numB n = true) : -10000000000000 ≤ n := by have := numB_true.1 h; omega
theorem numB_hi {n : Int} (h : numB n = true) : n ≤ 10000000000000 := by have := numB_true.1 h; omega

def okN (rs : List (Int × Int)) (n : Int) : Bool := goodL rs && numB n
def isLeftV (rs : List (Int × Int)) (n : Int) : Bool := okN rs n && leftF rs n
def firstV (rs : List (Int × Int)) (n : Int) : Int := if okN rs n && !leftF rs n then (fIdx rs n : Int) else 0
def firstOk (rs : List (Int × Int)) (n : Int) : Bool := okN rs n && !leftF rs n


set_option maxHeartbeats 400000 in
theorem impl_IsLeft_c (w : World) (A : Option Addr) (m c : Nat) (rs : List (Int × Int)) (hA : Rl w A rs) (hm : m = rs.length) (hn : m ≤ 1048576) (n : Int) :
    Calls Try.prog 15 #[.slice A m c, .int .i64 n] w fun en w' => en = .returned (.tuple #[.bool (isLeftV rs n), .bool (okN rs n)]) ∧ Below w.heap.size w w' := by
  have Hm := Lib.hid hm
  clear hm
  cases hg : goodL rs with
  | false =>
    rw [show isLeftV rs n = false by simp [isLeftV, okN, hg], show okN rs n = false by simp [okN, hg]]
    go_enter Try.func15, Try.ntmps15
    go_wp2_with fail
    refine (implAreRules_c _ _ _ rs _ hA Hm.out hn).mono ?_
    rintro e w1 ⟨rfl, b1⟩
    go_wp2
    go_ret2
    exact ⟨rfl, b1⟩
  | true =>
    cases hk : numB n with
    | false =>
      rw [show isLeftV rs n = false by simp [isLeftV, okN, hk], show okN rs n = false by simp [okN, hk]]
      go_enter Try.func15, Try.ntmps15
      go_wp2_with fail
      refine (implAreRules_c _ _ _ rs _ hA Hm.out hn).mono ?_
      rintro e w1 ⟨rfl, b1⟩
      go_wp2_with fail
      refine (isNumber_c _ _).mono ?_
      rintro e w2 ⟨rfl, rfl⟩
      go_wp2
      go_ret2
      exact ⟨rfl, b1⟩
    | true =>
      rw [show isLeftV rs n = leftF rs n by simp [isLeftV, okN, hk, hg], show okN rs n = true by simp [okN, hk, hg]]
      have Hg := Lib.hid hg
      have Hk := Lib.hid hk
      go_enter Try.func15, Try.ntmps15
      go_wp2_with fail
      refine (implAreRules_c _ _ _ rs _ hA Hm.out hn).mono ?_
      rintro e w1 ⟨rfl, b1⟩
      have R1 := hA.below b1
      go_wp2_with fail
      refine (isNumber_c _ _).mono ?_
      rintro e w2 ⟨rfl, rfl⟩
      go_wp2_with fail
      refine (isLeft_c _ _ _ rs _ _ R1 Hm.out Hg.out (numB_lo Hk.out) (numB_hi Hk.out)).mono ?_
      rintro e w3 ⟨rfl, b3⟩
      go_wp2
      go_ret2
      exact ⟨rfl, b1.trans (b3.mono b1.size)⟩

theorem firstI_pos {rs : List (Int × Int)} {n : Int} (h : leftF rs n = false) : firstI rs n = (fIdx rs n : Int) := by
  have := fIdx_le rs n
  simp only [leftF, decide_eq_false_iff_not] at h
  rw [firstI, if_pos (by omega)]
theorem firstK_ok {rs : List (Int × Int)} {n : Int} (h : okN rs n = true) : firstK rs n = firstV rs n ∧ crossedB rs n = firstOk rs n := by
  have := fIdx_le rs n
  rw [firstK, firstV, firstOk, h, crossedB]
  cases hl : leftF rs n with
  | true =>
    simp only [leftF, decide_eq_true_eq] at hl
    rw [hl]
    simp
  | false =>
    simp only [leftF, decide_eq_false_iff_not] at hl
    have : fIdx rs n < rs.length := by omega
    simp [this]

set_option maxHeartbeats 400000 in
theorem spec_FirstRule_c (w : World) (A : Option Addr) (m c : Nat) (rs : List (Int × Int)) (hA : Rl w A rs) (hm : m = rs.length) (hn : m ≤ 1048576) (n : Int) :
    Calls Try.prog 28 #[.slice A m c, .int .i64 n] w fun en w' => en = .returned (.tuple #[.int .i64 (firstV rs n), .bool (firstOk rs n)]) ∧ Below w.heap.size w w' := by
  have Hm := Lib.hid hm
  clear hm
  cases hg : goodL rs with
  | false =>
    rw [show firstV rs n = 0 by simp [firstV, okN, hg], show firstOk rs n = false by simp [firstOk, okN, hg]]
    go_enter Try.func28, Try.ntmps28
    go_wp2_with fail
    refine (good_c _ _ _ rs _ hA Hm.out hn).mono ?_
    rintro e w1 ⟨rfl, b1⟩
    go_wp2
    go_ret2
    exact ⟨rfl, b1⟩
  | true =>
    cases hk : numB n with
    | false =>
      rw [show firstV rs n = 0 by simp [firstV, okN, hk], show firstOk rs n = false by simp [firstOk, okN, hk]]
      go_enter Try.func28, Try.ntmps28
      go_wp2_with fail
      refine (good_c _ _ _ rs _ hA Hm.out hn).mono ?_
      rintro e w1 ⟨rfl, b1⟩
      go_wp2_with fail
      refine (siNumber_c _ _).mono ?_
      rintro e w2 ⟨rfl, rfl⟩
      go_wp2
      go_ret2
      exact ⟨rfl, b1⟩
    | true =>
      have Hg := Lib.hid hg
      have Hk := Lib.hid hk
      cases hl : leftF rs n with
      | true =>
        rw [show firstV rs n = 0 by simp [firstV, hl], show firstOk rs n = false by simp [firstOk, hl]]
        go_enter Try.func28, Try.ntmps28
        go_wp2_with fail
        refine (good_c _ _ _ rs _ hA Hm.out hn).mono ?_
        rintro e w1 ⟨rfl, b1⟩
        have R1 := hA.below b1
        go_wp2_with fail
        refine (siNumber_c _ _).mono ?_
        rintro e w2 ⟨rfl, rfl⟩
        go_wp2_with fail
        refine (siLeft_c _ _ _ rs _ _ R1 Hm.out Hg.out (numB_lo Hk.out) (numB_hi Hk.out)).mono ?_
        rintro e w3 ⟨rfl, b3⟩
        go_wp2
        go_ret2
        exact ⟨rfl, b1.trans (b3.mono b1.size)⟩
      | false =>
        rw [show firstV rs n = firstI rs n by rw [firstI_pos hl]; simp [firstV, okN, hk, hg, hl], show firstOk rs n = true by simp [firstOk, hl, okN, hk, hg]]
        go_enter Try.func28, Try.ntmps28
        go_wp2_with fail
        refine (good_c _ _ _ rs _ hA Hm.out hn).mono ?_
        rintro e w1 ⟨rfl, b1⟩
        have R1 := hA.below b1
        go_wp2_with fail
        refine (siNumber_c _ _).mono ?_
        rintro e w2 ⟨rfl, rfl⟩
        go_wp2_with fail
        refine (siLeft_c _ _ _ rs _ _ R1 Hm.out Hg.out (numB_lo Hk.out) (numB_hi Hk.out)).mono ?_
        rintro e w3 ⟨rfl, b3⟩
        have R3 := R1.below b3
        have b13 := b1.trans (b3.mono b1.size)
        go_wp2_with fail
        refine (siFirst_c _ _ _ rs _ _ R3 Hm.out Hg.out (numB_lo Hk.out) (numB_hi Hk.out)).mono ?_
        rintro e w4 ⟨rfl, b4⟩
        go_wp2
        go_ret2
        exact ⟨rfl, b13.trans (b4.mono b13.size)⟩

set_option maxHeartbeats 400000 in
theorem impl_FirstRule_c (w : World) (A : Option Addr) (m c : Nat) (rs : List (Int × Int)) (hA : Rl w A rs) (hm : m = rs.length) (hn : m ≤ 1048576) (n : Int) :
    Calls Try.prog 16 #[.slice A m c, .int .i64 n] w fun en w' => en = .returned (.tuple #[.int .i64 (firstV rs n), .bool (firstOk rs n)]) ∧ Below w.heap.size w w' := by
  have Hm := Lib.hid hm
  clear hm
  cases hg : goodL rs with
  | false =>
    rw [show firstV rs n = 0 by simp [firstV, okN, hg], show firstOk rs n = false by simp [firstOk, okN, hg]]
    go_enter Try.func16, Try.ntmps16
    go_wp2_with fail
    refine (implAreRules_c _ _ _ rs _ hA Hm.out hn).mono ?_
    rintro e w1 ⟨rfl, b1⟩
    go_wp2
    go_ret2
    exact ⟨rfl, b1⟩
  | true =>
    cases hk : numB n with
    | false =>
      rw [show firstV rs n = 0 by simp [firstV, okN, hk], show firstOk rs n = false by simp [firstOk, okN, hk]]
      go_enter Try.func16, Try.ntmps16
      go_wp2_with fail
      refine (implAreRules_c _ _ _ rs _ hA Hm.out hn).mono ?_
      rintro e w1 ⟨rfl, b1⟩
      go_wp2_with fail
      refine (isNumber_c _ _).mono ?_
      rintro e w2 ⟨rfl, rfl⟩
      go_wp2
      go_ret2
      exact ⟨rfl, b1⟩
    | true =>
      have Hg := Lib.hid hg
      have Hk := Lib.hid hk
      have hok := firstK_ok (rs := rs) (n := n) (by simp [okN, hg, hk])
      rw [← hok.1, ← hok.2]
      clear hok
      go_enter Try.func16, Try.ntmps16
      go_wp2_with fail
      refine (implAreRules_c _ _ _ rs _ hA Hm.out hn).mono ?_
      rintro e w1 ⟨rfl, b1⟩
      have R1 := hA.below b1
      go_wp2_with fail
      refine (isNumber_c _ _).mono ?_
      rintro e w2 ⟨rfl, rfl⟩
      go_wp2_with fail
      refine (firstCrosser_c _ _ _ rs _ _ R1 Hm.out Hg.out (numB_lo Hk.out) (numB_hi Hk.out)).mono ?_
      rintro e w3 ⟨rfl, b3⟩
      go_wp2
      go_ret2
      exact ⟨rfl, b1.trans (b3.mono b1.size)⟩

end Go.Proofs.Ytjoklbkbggdlgaa
