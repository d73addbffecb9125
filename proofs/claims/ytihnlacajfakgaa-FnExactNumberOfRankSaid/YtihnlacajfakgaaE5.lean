import Derived.Test.YtihnlacajfakgaaE3
namespace Go.Proofs.Ytihnlacajfakgaa
open Go.RowKit
set_option linter.unusedVariables false
set_option linter.unusedSimpArgs false

set_option maxRecDepth 100000 in
set_option maxHeartbeats 400000 in
theorem traceSteps_c (w : World) (A : Option Addr) (m c : Nat) (xs : List Int) (hA : Il w A xs) (hm : m = xs.length) (hn : m ≤ 1048576) (hg : goodS xs = true) (n : Int) (h1 : 1 ≤ n) (h2 : n ≤ 10000) :
    Calls Try.prog 61 #[.slice A m c, .int .i64 n] w fun en w' => en = .returned (.tuple #[.int .i64 (fallI xs n).2, .int .i64 ((fallI xs n).1 : Int)]) ∧ Below w.heap.size w w' := by
  have Hm := Lib.hid hm
  have Hg := Lib.hid hg
  clear hm hg
  go_enter Try.func61, Try.ntmps61
  go_wp2
  go_loop [6, 12] (fun q i => ∃ (k : Nat) (p : Int), k ≤ m ∧ i = .int .i64 k ∧ q = .int .i64 p ∧ 1 ≤ p ∧ p ≤ 10000 ∧ fallAt xs n k p) (fun _ i => m - (intOf i).toNat)
  case atStart => exact ⟨0, n, Nat.zero_le _, rfl, rfl, h1, h2, fallAt_zero _ _⟩
  case round =>
    obtain ⟨k, p, hk, rfl, rfl, p1, p2, hf⟩ := hrel
    have Hf := Lib.hid hf
    clear hf
    by_cases hlt : k < m
    · have hlt1 : k < xs.length := by have := Hm.out; omega
      obtain ⟨b, off, rfl, hb, hr⟩ := hA (by omega)
      have hc0 := hr k hlt1
      obtain ⟨x1, x2⟩ := goodS_at Hg.out hlt1
      obtain ⟨q1, q2, q3, q4⟩ := fall_lt p (ivL xs k) p1 x1
      have hx0 : (ivL xs k == 0) = false := by simp; omega
      by_cases hz : p % ivL xs k = 0
      · have Hh := Lib.hid (fallAt_hit Hf.out hlt1 hz)
        go_wp2
        go_ret2
        exact ⟨by rw [Hh.out]; rfl, Below.refl _ _⟩
      · have Hz := Lib.hid hz
        clear hz
        have hzb : (p % ivL xs k == 0) = false := by have := Hz.out; simpa using this
        go_wp2
        go_round
        case rel => exact ⟨k + 1, p - p / ivL xs k, by omega, by go_num, rfl, by omega, by omega, fallAt_go Hf.out hlt1 Hz.out⟩
        case measure => simp [intOf]; omega
    · have Hh := Lib.hid (fallAt_end Hf.out (by have := Hm.out; omega : xs.length ≤ k))
      have hkm : k = m := by omega
      have Hk := Lib.hid hkm
      clear hkm
      go_wp2
      go_ret2
      exact ⟨by rw [Hh.out, Hk.out]; rfl, Below.refl _ _⟩

theorem inB_c (n lo hi : Int) : inB n lo hi = (decide (lo ≤ n) && decide (n ≤ hi)) := by simp [inB]
theorem cnNumber_c (n : Int) (w : World) :
    Calls Try.prog 58 #[.int .i64 n] w fun e w' => e = .returned (.bool (inB n 1 10000)) ∧ w = w' := by
  go_enter Try.func58, Try.ntmps58
  go_wp2_with (go_at_call 62; refine (l1In_c _ _ _ _).mono ?_; rintro e w' ⟨rfl, rfl⟩)
  go_ret
  exact ⟨rfl, rfl⟩
theorem cnMost_c (n : Int) (w : World) :
    Calls Try.prog 53 #[.int .i64 n] w fun e w' => e = .returned (.bool (inB n 0 400)) ∧ w = w' := by
  go_enter Try.func53, Try.ntmps53
  go_wp2_with (go_at_call 62; refine (l1In_c _ _ _ _).mono ?_; rintro e w' ⟨rfl, rfl⟩)
  go_ret
  exact ⟨rfl, rfl⟩
theorem isTraced_c (n : Int) (w : World) :
    Calls Try.prog 60 #[.int .i64 n] w fun e w' => e = .returned (.bool (inB n 1 10000)) ∧ w = w' := by
  by_cases h1 : 1 ≤ n
  · by_cases h2 : n ≤ 10000
    · rw [inB_true.2 ⟨h1, h2⟩]
      go_enter Try.func60, Try.ntmps60
      go_wp2
      go_ret
      exact ⟨rfl, rfl⟩
    · rw [inB_false.2 (by omega)]
      go_enter Try.func60, Try.ntmps60
      go_wp2
      go_ret
      exact ⟨rfl, rfl⟩
  · rw [inB_false.2 (by omega)]
    go_enter Try.func60, Try.ntmps60
    go_wp2
    go_ret
    exact ⟨rfl, rfl⟩
theorem isMostAnew_c (n : Int) (w : World) :
    Calls Try.prog 55 #[.int .i64 n] w fun e w' => e = .returned (.bool (inB n 0 400)) ∧ w = w' := by
  by_cases h1 : 0 ≤ n
  · by_cases h2 : n ≤ 400
    · rw [inB_true.2 ⟨h1, h2⟩]
      go_enter Try.func55, Try.ntmps55
      go_wp2
      go_ret
      exact ⟨rfl, rfl⟩
    · rw [inB_false.2 (by omega)]
      go_enter Try.func55, Try.ntmps55
      go_wp2
      go_ret
      exact ⟨rfl, rfl⟩
  · rw [inB_false.2 (by omega)]
    go_enter Try.func55, Try.ntmps55
    go_wp2
    go_ret
    exact ⟨rfl, rfl⟩

def okT (xs : List Int) (n : Int) : Bool := goodS xs && inB n 1 10000
def stepOk (xs : List Int) (n : Int) : Bool := okT xs n && hitB xs n
def stepV (xs : List Int) (n : Int) : Int := if stepOk xs n then ((fallI xs n).1 : Int) else 0
theorem stepV_no {xs : List Int} {n : Int} (h : stepOk xs n = false) : stepV xs n = 0 := by rw [stepV, h]; rfl
theorem stepV_yes {xs : List Int} {n : Int} (h : stepOk xs n = true) : stepV xs n = ((fallI xs n).1 : Int) := by rw [stepV, h]; rfl
def behOk (xs : List Int) (n : Int) : Bool := okT xs n && !hitB xs n
def behV (xs : List Int) (n : Int) : Int := if behOk xs n then (fallI xs n).2 - 1 else 0
theorem behV_no {xs : List Int} {n : Int} (h : behOk xs n = false) : behV xs n = 0 := by rw [behV, h]; rfl
theorem behV_yes {xs : List Int} {n : Int} (h : behOk xs n = true) : behV xs n = (fallI xs n).2 - 1 := by rw [behV, h]; rfl

set_option maxRecDepth 100000 in
set_option maxHeartbeats 400000 in
theorem spec_StepOfFall_c (w : World) (A : Option Addr) (m c : Nat) (xs : List Int) (hA : Il w A xs) (hm : m = xs.length) (hn : m ≤ 1048576) (n : Int) :
    Calls Try.prog 26 #[.slice A m c, .int .i64 n] w fun en w' => en = .returned (.tuple #[.int .i64 (stepV xs n), .bool (stepOk xs n)]) ∧ Below w.heap.size w w' := by
  have Hm := Lib.hid hm
  clear hm
  cases hg : goodS xs with
  | false =>
    have ho : stepOk xs n = false := by simp [stepOk, okT, *]
    rw [stepV_no ho, ho]
    clear ho
    try (have hneg : fallA xs n = -1 := by rw [fallA, hh]; rfl)
    go_enter Try.func26, Try.ntmps26
    go_wp2_with fail
    refine (cnGood_c _ _ _ _ xs hA Hm.out hn).mono ?_
    rintro e w1 ⟨rfl, rfl⟩
    go_wp2
    go_ret2
    exact ⟨rfl, (Below.refl _ _)⟩
  | true =>
    cases hk : inB n 1 10000 with
    | false =>
      have ho : stepOk xs n = false := by simp [stepOk, okT, *]
      rw [stepV_no ho, ho]
      clear ho
      try (have hneg : fallA xs n = -1 := by rw [fallA, hh]; rfl)
      go_enter Try.func26, Try.ntmps26
      go_wp2_with fail
      refine (cnGood_c _ _ _ _ xs hA Hm.out hn).mono ?_
      rintro e w1 ⟨rfl, rfl⟩
      go_wp2_with fail
      refine (cnNumber_c _ _).mono ?_
      rintro e w2 ⟨rfl, rfl⟩
      go_wp2
      go_ret2
      exact ⟨rfl, (Below.refl _ _)⟩
    | true =>
      cases hh : hitB xs n with
      | false =>
        have ho : stepOk xs n = false := by simp [stepOk, okT, *]
        rw [stepV_no ho, ho]
        clear ho
        try (have hneg : fallA xs n = -1 := by rw [fallA, hh]; rfl)
        go_enter Try.func26, Try.ntmps26
        go_wp2_with fail
        refine (cnGood_c _ _ _ _ xs hA Hm.out hn).mono ?_
        rintro e w1 ⟨rfl, rfl⟩
        go_wp2_with fail
        refine (cnNumber_c _ _).mono ?_
        rintro e w2 ⟨rfl, rfl⟩
        go_wp2_with fail
        refine (cnFall_c _ _ _ _ xs hA Hm.out hn (Lib.hid hg).out _ (inB_true.1 hk).1 (inB_true.1 hk).2).mono ?_
        rintro e w3 ⟨rfl, b3⟩
        have hA_3 := hA.below b3
        go_wp2
        go_ret2
        exact ⟨rfl, b3⟩
      | true =>
        have ho : stepOk xs n = true := by simp [stepOk, okT, *]
        rw [stepV_yes ho, ho, show ((fallI xs n).1 : Int) = fallA xs n by rw [fallA, hh]; rfl]
        clear ho
        have hneg : 0 ≤ fallA xs n := by rw [fallA, hh]; simp
        have Hg := Lib.hid hg
        have Hk := Lib.hid hk
        have Hh := Lib.hid hh
        go_enter Try.func26, Try.ntmps26
        go_wp2_with fail
        refine (cnGood_c _ _ _ _ xs hA Hm.out hn).mono ?_
        rintro e w1 ⟨rfl, rfl⟩
        go_wp2_with fail
        refine (cnNumber_c _ _).mono ?_
        rintro e w2 ⟨rfl, rfl⟩
        go_wp2_with fail
        refine (cnFall_c _ _ _ _ xs hA Hm.out hn (Lib.hid hg).out _ (inB_true.1 hk).1 (inB_true.1 hk).2).mono ?_
        rintro e w3 ⟨rfl, b3⟩
        have hA_3 := hA.below b3
        go_wp2
        go_ret2
        exact ⟨rfl, b3⟩

set_option maxRecDepth 100000 in
set_option maxHeartbeats 400000 in
theorem spec_RankBehind_c (w : World) (A : Option Addr) (m c : Nat) (xs : List Int) (hA : Il w A xs) (hm : m = xs.length) (hn : m ≤ 1048576) (n : Int) :
    Calls Try.prog 28 #[.slice A m c, .int .i64 n] w fun en w' => en = .returned (.tuple #[.int .i64 (behV xs n), .bool (behOk xs n)]) ∧ Below w.heap.size w w' := by
  have Hm := Lib.hid hm
  clear hm
  cases hg : goodS xs with
  | false =>
    have ho : behOk xs n = false := by first | (simp [behOk, okT, *]; done) | (simp [behOk, Decidable.not_not.1 hh]; done)
    rw [behV_no ho, ho]
    clear ho
    try (have hneg : 0 ≤ fallA xs n := by rw [fallA, Decidable.not_not.1 hh]; simp)
    try clear hh
    go_enter Try.func28, Try.ntmps28
    go_wp2_with fail
    refine (cnGood_c _ _ _ _ xs hA Hm.out hn).mono ?_
    rintro e w1 ⟨rfl, rfl⟩
    go_wp2
    go_ret2
    exact ⟨rfl, (Below.refl _ _)⟩
  | true =>
    cases hk : inB n 1 10000 with
    | false =>
      have ho : behOk xs n = false := by first | (simp [behOk, okT, *]; done) | (simp [behOk, Decidable.not_not.1 hh]; done)
      rw [behV_no ho, ho]
      clear ho
      try (have hneg : 0 ≤ fallA xs n := by rw [fallA, Decidable.not_not.1 hh]; simp)
      try clear hh
      go_enter Try.func28, Try.ntmps28
      go_wp2_with fail
      refine (cnGood_c _ _ _ _ xs hA Hm.out hn).mono ?_
      rintro e w1 ⟨rfl, rfl⟩
      go_wp2_with fail
      refine (cnNumber_c _ _).mono ?_
      rintro e w2 ⟨rfl, rfl⟩
      go_wp2
      go_ret2
      exact ⟨rfl, (Below.refl _ _)⟩
    | true =>
      by_cases hh : ¬ hitB xs n = true
      rotate_left
      · skip
        have ho : behOk xs n = false := by first | (simp [behOk, okT, *]; done) | (simp [behOk, Decidable.not_not.1 hh]; done)
        rw [behV_no ho, ho]
        clear ho
        try (have hneg : 0 ≤ fallA xs n := by rw [fallA, Decidable.not_not.1 hh]; simp)
        try clear hh
        go_enter Try.func28, Try.ntmps28
        go_wp2_with fail
        refine (cnGood_c _ _ _ _ xs hA Hm.out hn).mono ?_
        rintro e w1 ⟨rfl, rfl⟩
        go_wp2_with fail
        refine (cnNumber_c _ _).mono ?_
        rintro e w2 ⟨rfl, rfl⟩
        go_wp2_with fail
        refine (cnFall_c _ _ _ _ xs hA Hm.out hn (Lib.hid hg).out _ (inB_true.1 hk).1 (inB_true.1 hk).2).mono ?_
        rintro e w3 ⟨rfl, b3⟩
        have hA_3 := hA.below b3
        go_wp2
        go_ret2
        exact ⟨rfl, b3⟩
      · skip
        have hh' : hitB xs n = false := by simpa using hh
        have ho : behOk xs n = true := by simp [behOk, okT, *]
        rw [behV_yes ho, ho, show (fallI xs n).2 - 1 = fallR xs n by rw [fallR, hh']; rfl]
        clear ho
        have hneg : fallA xs n = -1 := by rw [fallA, hh']; rfl
        clear hh
        have Hg := Lib.hid hg
        have Hk := Lib.hid hk
        go_enter Try.func28, Try.ntmps28
        go_wp2_with fail
        refine (cnGood_c _ _ _ _ xs hA Hm.out hn).mono ?_
        rintro e w1 ⟨rfl, rfl⟩
        go_wp2_with fail
        refine (cnNumber_c _ _).mono ?_
        rintro e w2 ⟨rfl, rfl⟩
        go_wp2_with fail
        refine (cnFall_c _ _ _ _ xs hA Hm.out hn (Lib.hid hg).out _ (inB_true.1 hk).1 (inB_true.1 hk).2).mono ?_
        rintro e w3 ⟨rfl, b3⟩
        have hA_3 := hA.below b3
        go_wp2
        go_ret2
        exact ⟨rfl, b3⟩

end Go.Proofs.Ytihnlacajfakgaa
