import Derived.Test.YtmjjpgafecmljaaG3
namespace Go.Proofs.Ytmjjpgafecmljaa
open Go.RowKit
set_option linter.unusedVariables false
set_option linter.unusedSimpArgs false

set_option maxRecDepth 100000 in
theorem prime_1000003 : primeB 1000003 = true := by decide +kernel
set_option maxRecDepth 100000 in
theorem count_primes : (flF primeB 2 9999).length = 1229 := by decide +kernel
set_option maxRecDepth 100000 in
theorem count_first : (flF primeB 2 36).length = 12 := by decide +kernel

theorem prBetween_i (w : World) (a b : Int) (ha : 0 ≤ a) (hb : 0 ≤ b) (hb2 : b ≤ 1000000000) (hd : b - a ≤ 90000) :
    Calls Try.prog 129 #[.int .i64 a, .int .i64 b] w fun en w' => (∃ v, en = .returned v ∧ OwnI w' w.heap.size v (prB a.toNat b.toNat)) ∧ Below w.heap.size w w' := by
  obtain ⟨lo, rfl⟩ := Int.eq_ofNat_of_zero_le ha
  obtain ⟨hi, rfl⟩ := Int.eq_ofNat_of_zero_le hb
  exact prBetween_c w lo hi (by omega) (by omega)
theorem primesBetween_i (w : World) (a b : Int) (ha : 0 ≤ a) (ha2 : a ≤ 1000000000) (hb : 0 ≤ b) (hb2 : b ≤ 1000000000) (hd : b - a ≤ 90000) :
    Calls Try.prog 115 #[.int .i64 a, .int .i64 b] w fun en w' => (∃ v, en = .returned v ∧ OwnI w' w.heap.size v (prB a.toNat b.toNat)) ∧ Below w.heap.size w w' := by
  obtain ⟨lo, rfl⟩ := Int.eq_ofNat_of_zero_le ha
  obtain ⟨hi, rfl⟩ := Int.eq_ofNat_of_zero_le hb
  exact primesBetween_c w lo hi (by omega) (by omega) (by omega)

def pbOk (a b : Int) : Bool := inB a 0 1000000000 && inB b 0 1000000000 && decide (b - a ≤ 2000)
def pbA (a b : Int) : List Int := if pbOk a b then prB a.toNat b.toNat else []
theorem pbA_no {a b : Int} (h : pbOk a b = false) : pbA a b = [] := by rw [pbA, h]; rfl
theorem pbA_yes {a b : Int} (h : pbOk a b = true) : pbA a b = prB a.toNat b.toNat := by rw [pbA, h]; rfl
theorem pbA_len (a b : Int) : (pbA a b).length ≤ 1048576 := by
  cases h : pbOk a b with
  | false => rw [pbA_no h]; exact Nat.zero_le _
  | true =>
    rw [pbA_yes h]
    have := prB_len a.toNat b.toNat
    simp only [pbOk, Bool.and_eq_true, decide_eq_true_eq, inB_true] at h
    omega
set_option maxRecDepth 100000 in
set_option maxHeartbeats 400000 in
theorem spec_PrimesBetween_c (w : World) (a b : Int) :
    Calls Try.prog 40 #[.int .i64 a, .int .i64 b] w fun en w' => (∃ v, en = .returned (.tuple #[v, .bool (pbOk a b)]) ∧ OwnI w' w.heap.size v (pbA a b)) ∧ Below w.heap.size w w' := by
  cases hg : inB a 0 1000000000 with
  | false =>
    have ho : pbOk a b = false := by simp [pbOk, *]
    rw [pbA_no ho, ho]
    clear ho
    try (have x1 := (inB_true.1 hg); have x2 := (inB_true.1 hh))
    go_enter Try.func40, Try.ntmps40
    go_wp2_with fail
    refine (l1In_c _ _ _ _).mono ?_
    rintro e w1 ⟨rfl, rfl⟩
    go_wp2
    go_ret2
    exact ⟨⟨_, rfl, OwnI.nil _ _⟩, (Below.refl _ _)⟩
  | true =>
    cases hh : inB b 0 1000000000 with
    | false =>
      have ho : pbOk a b = false := by simp [pbOk, *]
      rw [pbA_no ho, ho]
      clear ho
      try (have x1 := (inB_true.1 hg); have x2 := (inB_true.1 hh))
      go_enter Try.func40, Try.ntmps40
      go_wp2_with fail
      refine (l1In_c _ _ _ _).mono ?_
      rintro e w1 ⟨rfl, rfl⟩
      go_wp2_with fail
      refine (l1In_c _ _ _ _).mono ?_
      rintro e w2 ⟨rfl, rfl⟩
      go_wp2
      go_ret2
      exact ⟨⟨_, rfl, OwnI.nil _ _⟩, (Below.refl _ _)⟩
    | true =>
      by_cases hk : b - a ≤ 2000
      rotate_left
      · skip
        have ho : pbOk a b = false := by simp [pbOk, *]
        rw [pbA_no ho, ho]
        clear ho
        try (have x1 := (inB_true.1 hg); have x2 := (inB_true.1 hh))
        go_enter Try.func40, Try.ntmps40
        go_wp2_with fail
        refine (l1In_c _ _ _ _).mono ?_
        rintro e w1 ⟨rfl, rfl⟩
        go_wp2_with fail
        refine (l1In_c _ _ _ _).mono ?_
        rintro e w2 ⟨rfl, rfl⟩
        go_wp2
        go_ret2
        exact ⟨⟨_, rfl, OwnI.nil _ _⟩, (Below.refl _ _)⟩
      · skip
        have ho : pbOk a b = true := by simp [pbOk, *]
        rw [pbA_yes ho, ho]
        clear ho
        have x1 := (inB_true.1 hg)
        have x2 := (inB_true.1 hh)
        have Hg := Lib.hid hg
        have Hh := Lib.hid hh
        go_enter Try.func40, Try.ntmps40
        go_wp2_with fail
        refine (l1In_c _ _ _ _).mono ?_
        rintro e w1 ⟨rfl, rfl⟩
        go_wp2_with fail
        refine (l1In_c _ _ _ _).mono ?_
        rintro e w2 ⟨rfl, rfl⟩
        go_wp2_with fail
        refine (prBetween_i _ _ _ x1.1 x2.1 x2.2 (by omega)).mono ?_
        rintro e w3 ⟨⟨v3, rfl, o3⟩, b3⟩
        go_wp2
        go_ret2
        exact ⟨⟨_, rfl, o3⟩, b3⟩

set_option maxRecDepth 100000 in
set_option maxHeartbeats 400000 in
theorem impl_PrimesBetween_c (w : World) (a b : Int) :
    Calls Try.prog 38 #[.int .i64 a, .int .i64 b] w fun en w' => (∃ v, en = .returned (.tuple #[v, .bool (pbOk a b)]) ∧ OwnI w' w.heap.size v (pbA a b)) ∧ Below w.heap.size w w' := by
  by_cases hg : 0 ≤ a
  rotate_left
  · skip
    have ho : pbOk a b = false := by simp [pbOk, inB, *]
    rw [pbA_no ho, ho]
    clear ho
    go_enter Try.func38, Try.ntmps38
    go_wp2
    go_ret2
    exact ⟨⟨_, rfl, OwnI.nil _ _⟩, (Below.refl _ _)⟩
  · skip
    by_cases hg2 : a ≤ 1000000000
    rotate_left
    · skip
      have ho : pbOk a b = false := by simp [pbOk, inB, *]
      rw [pbA_no ho, ho]
      clear ho
      go_enter Try.func38, Try.ntmps38
      go_wp2
      go_ret2
      exact ⟨⟨_, rfl, OwnI.nil _ _⟩, (Below.refl _ _)⟩
    · skip
      by_cases hh : 0 ≤ b
      rotate_left
      · skip
        have ho : pbOk a b = false := by simp [pbOk, inB, *]
        rw [pbA_no ho, ho]
        clear ho
        go_enter Try.func38, Try.ntmps38
        go_wp2
        go_ret2
        exact ⟨⟨_, rfl, OwnI.nil _ _⟩, (Below.refl _ _)⟩
      · skip
        by_cases hh2 : b ≤ 1000000000
        rotate_left
        · skip
          have ho : pbOk a b = false := by simp [pbOk, inB, *]
          rw [pbA_no ho, ho]
          clear ho
          go_enter Try.func38, Try.ntmps38
          go_wp2
          go_ret2
          exact ⟨⟨_, rfl, OwnI.nil _ _⟩, (Below.refl _ _)⟩
        · skip
          by_cases hk : b - a ≤ 2000
          rotate_left
          · skip
            have ho : pbOk a b = false := by simp [pbOk, inB, *]
            rw [pbA_no ho, ho]
            clear ho
            go_enter Try.func38, Try.ntmps38
            go_wp2
            go_ret2
            exact ⟨⟨_, rfl, OwnI.nil _ _⟩, (Below.refl _ _)⟩
          · skip
            have ho : pbOk a b = true := by simp [pbOk, inB, *]
            rw [pbA_yes ho, ho]
            clear ho
            go_enter Try.func38, Try.ntmps38
            go_wp2_with fail
            refine (primesBetween_i _ _ _ hg hg2 hh hh2 (by omega)).mono ?_
            rintro e w1 ⟨⟨v1, rfl, o1⟩, b1⟩
            go_wp2
            go_ret2
            exact ⟨⟨_, rfl, o1⟩, b1⟩

theorem prCounted_c (n : Int) (w : World) :
    Calls Try.prog 125 #[.int .i64 n] w fun e w' => e = .returned (.bool (inB n 0 10000)) ∧ w = w' := by
  go_enter Try.func125, Try.ntmps125
  go_wp2_with (go_at_call 110; refine (l1In_c _ _ _ _).mono ?_; rintro e w' ⟨rfl, rfl⟩)
  go_ret
  exact ⟨rfl, rfl⟩
theorem isCounted_c (n : Int) (w : World) :
    Calls Try.prog 121 #[.int .i64 n] w fun e w' => e = .returned (.bool (inB n 0 10000)) ∧ w = w' := by
  by_cases h1 : 0 ≤ n
  · by_cases h2 : n ≤ 10000
    · rw [inB_true.2 ⟨h1, h2⟩]
      go_enter Try.func121, Try.ntmps121
      go_wp2
      go_ret
      exact ⟨rfl, rfl⟩
    · rw [inB_false.2 (by omega)]
      go_enter Try.func121, Try.ntmps121
      go_wp2
      go_ret
      exact ⟨rfl, rfl⟩
  · rw [inB_false.2 (by omega)]
    go_enter Try.func121, Try.ntmps121
    go_wp2
    go_ret
    exact ⟨rfl, rfl⟩
def cpOk (n : Int) : Bool := inB n 0 10000
def cpV (n : Int) : Int := if cpOk n then ((prB 2 n.toNat).length : Int) else 0
theorem cpV_no {n : Int} (h : cpOk n = false) : cpV n = 0 := by rw [cpV, h]; rfl
theorem cpV_yes {n : Int} (h : cpOk n = true) : cpV n = ((prB 2 n.toNat).length : Int) := by rw [cpV, h]; rfl
set_option maxRecDepth 100000 in
set_option maxHeartbeats 400000 in
theorem spec_CountPrimes_c (w : World) (n : Int) :
    Calls Try.prog 33 #[.int .i64 n] w fun en w' => en = .returned (.tuple #[.int .i64 (cpV n), .bool (cpOk n)]) ∧ Below w.heap.size w w' := by
  cases hg : inB n 0 10000 with
  | false =>
    have ho : cpOk n = false := hg
    rw [cpV_no ho, ho]
    clear ho
    go_enter Try.func33, Try.ntmps33
    go_wp2_with fail
    refine (prCounted_c _ _).mono ?_
    rintro e w1 ⟨rfl, rfl⟩
    go_wp2
    go_ret2
    exact ⟨rfl, (Below.refl _ _)⟩
  | true =>
    have ho : cpOk n = true := hg
    rw [cpV_yes ho, ho, show prB 2 n.toNat = prB 0 n.toNat from (prB_two 0 n.toNat).symm]
    clear ho
    have x1 := (inB_true.1 hg)
    have Hg := Lib.hid hg
    go_enter Try.func33, Try.ntmps33
    go_wp2_with fail
    refine (prCounted_c _ _).mono ?_
    rintro e w1 ⟨rfl, rfl⟩
    go_wp2_with fail
    refine (prBetween_i _ _ _ (Int.le_refl 0) x1.1 (by omega) (by omega)).mono ?_
    rintro e w2 ⟨⟨v2, rfl, o2⟩, b2⟩
    obtain ⟨A, c, rfl⟩ := o2.shape
    go_wp2
    go_ret2
    exact ⟨rfl, b2⟩

set_option maxRecDepth 100000 in
set_option maxHeartbeats 400000 in
theorem impl_CountPrimes_c (w : World) (n : Int) :
    Calls Try.prog 32 #[.int .i64 n] w fun en w' => en = .returned (.tuple #[.int .i64 (cpV n), .bool (cpOk n)]) ∧ Below w.heap.size w w' := by
  cases hg : inB n 0 10000 with
  | false =>
    have ho : cpOk n = false := hg
    rw [cpV_no ho, ho]
    clear ho
    go_enter Try.func32, Try.ntmps32
    go_wp2_with fail
    refine (isCounted_c _ _).mono ?_
    rintro e w1 ⟨rfl, rfl⟩
    go_wp2
    go_ret2
    exact ⟨rfl, (Below.refl _ _)⟩
  | true =>
    have ho : cpOk n = true := hg
    rw [cpV_yes ho, ho]
    clear ho
    have x1 := (inB_true.1 hg)
    have Hg := Lib.hid hg
    go_enter Try.func32, Try.ntmps32
    go_wp2_with fail
    refine (isCounted_c _ _).mono ?_
    rintro e w1 ⟨rfl, rfl⟩
    go_wp2_with fail
    refine (primesBetween_i _ 2 _ (by omega) (by omega) x1.1 (by omega) (by omega)).mono ?_
    rintro e w2 ⟨⟨v2, rfl, o2⟩, b2⟩
    obtain ⟨A, c, rfl⟩ := o2.shape
    go_wp2
    go_ret2
    exact ⟨rfl, b2⟩

/-- The first prime from m on, m at most 1000003. -/
def npF : Nat → Nat → Nat
  | 0, m => m
  | f + 1, m => if primeB m then m else npF f (m + 1)
def nextP (m : Nat) : Nat := npF (1000004 - m) m
theorem nextP_yes {m : Nat} (h : m ≤ 1000003) (hp : primeB m = true) : nextP m = m := by
  rw [nextP, show 1000004 - m = (1000003 - m) + 1 by omega, npF, if_pos hp]
theorem nextP_no {m : Nat} (h : m ≤ 1000003) (hp : primeB m = false) : nextP m = nextP (m + 1) ∧ m + 1 ≤ 1000003 := by
  have h2 : m ≠ 1000003 := fun e => by rw [e, prime_1000003] at hp; cases hp
  rw [nextP, show 1000004 - m = (1000004 - (m + 1)) + 1 by omega, npF, if_neg (by rw [hp]; exact Bool.false_ne_true)]
  exact ⟨rfl, by omega⟩
def npOk (n : Int) : Bool := inB n 0 1000000
def npV (n : Int) : Int := if npOk n then (nextP (n.toNat + 1) : Int) else 0
theorem npV_no {n : Int} (h : npOk n = false) : npV n = 0 := by rw [npV, h]; rfl
theorem npV_yes {n : Nat} (h : npOk (n : Int) = true) : npV (n : Int) = (nextP (n + 1) : Int) := by rw [npV, h, Int.toNat_natCast]; rfl
set_option maxRecDepth 100000 in
set_option maxHeartbeats 400000 in
theorem spec_NextPrime_c (w : World) (n : Int) :
    Calls Try.prog 46 #[.int .i64 n] w fun en w' => en = .returned (.tuple #[.int .i64 (npV n), .bool (npOk n)]) ∧ Below w.heap.size w w' := by
  cases hg : inB n 0 1000000 with
  | false =>
    have ho : npOk n = false := hg
    rw [npV_no ho, ho]
    clear ho
    go_enter Try.func46, Try.ntmps46
    go_wp2_with fail
    refine (l1In_c _ _ _ _).mono ?_
    rintro e w1 ⟨rfl, rfl⟩
    go_wp2
    go_ret2
    exact ⟨rfl, (Below.refl _ _)⟩
  | true =>
    have ho : npOk n = true := hg
    obtain ⟨n1, n2⟩ := inB_true.1 hg
    obtain ⟨N, rfl⟩ := Int.eq_ofNat_of_zero_le n1
    rw [npV_yes ho, ho]
    clear ho
    have Hg := Lib.hid hg
    go_enter Try.func46, Try.ntmps46
    go_wp2_with fail
    refine (l1In_c _ _ _ _).mono ?_
    rintro e w1 ⟨rfl, rfl⟩
    go_wp2
    go_loop [0] (fun i => ∃ m : Nat, i = .int .i64 (m : Int) ∧ m ≤ 1000003 ∧ nextP (N + 1) = nextP m) (fun i => 1000004 - (intOf i).toNat)
    case atStart => exact ⟨N + 1, by go_num, by omega, rfl⟩
    case round =>
      obtain ⟨m, rfl, hm, hT⟩ := hrel
      have HT := Lib.hid hT
      clear hT
      cases hp : primeB m with
      | true =>
        have Hy := Lib.hid (HT.out.trans (nextP_yes hm hp))
        go_wp2_with fail
        refine (prIs_c _ _ (by omega)).mono ?_
        rw [Int.toNat_natCast, hp]
        rintro e w1 ⟨rfl, rfl⟩
        go_wp2
        go_ret2
        exact ⟨by rw [Hy.out]; rfl, (Below.refl _ _)⟩
      | false =>
        have Hn := nextP_no hm hp
        have Hy := Lib.hid (HT.out.trans Hn.1)
        have hm2 := Hn.2
        clear Hn
        go_wp2_with fail
        refine (prIs_c _ _ (by omega)).mono ?_
        rw [Int.toNat_natCast, hp]
        rintro e w1 ⟨rfl, rfl⟩
        go_wp2
        go_round
        case rel => exact ⟨m + 1, by go_num, by omega, Hy.out⟩
        case measure => simp [intOf]; omega

set_option maxRecDepth 100000 in
set_option maxHeartbeats 400000 in
theorem impl_NextPrime_c (w : World) (n : Int) :
    Calls Try.prog 41 #[.int .i64 n] w fun en w' => en = .returned (.tuple #[.int .i64 (npV n), .bool (npOk n)]) ∧ Below w.heap.size w w' := by
  by_cases hg : 0 ≤ n
  rotate_left
  · skip
    have ho : npOk n = false := inB_false.2 (by omega)
    rw [npV_no ho, ho]
    clear ho
    go_enter Try.func41, Try.ntmps41
    go_wp2
    go_ret2
    exact ⟨rfl, (Below.refl _ _)⟩
  · skip
    by_cases hh : n ≤ 1000000
    rotate_left
    · skip
      have ho : npOk n = false := inB_false.2 (by omega)
      rw [npV_no ho, ho]
      clear ho
      go_enter Try.func41, Try.ntmps41
      go_wp2
      go_ret2
      exact ⟨rfl, (Below.refl _ _)⟩
    · skip
      have ho : npOk n = true := inB_true.2 (by omega)
      obtain ⟨N, rfl⟩ := Int.eq_ofNat_of_zero_le hg
      rw [npV_yes ho, ho]
      clear ho
      go_enter Try.func41, Try.ntmps41
      go_wp2
      go_loop [4] (fun i => ∃ m : Nat, i = .int .i64 (m : Int) ∧ m ≤ 1000003 ∧ nextP (N + 1) = nextP m) (fun i => 1000004 - (intOf i).toNat)
      case atStart => exact ⟨N + 1, by go_num, by omega, rfl⟩
      case round =>
        obtain ⟨m, rfl, hm, hT⟩ := hrel
        have HT := Lib.hid hT
        clear hT
        cases hp : primeB m with
        | true =>
          have Hy := Lib.hid (HT.out.trans (nextP_yes hm hp))
          go_wp2_with fail
          refine (isPrime_c _ _ (by omega)).mono ?_
          rw [Int.toNat_natCast, hp]
          rintro e w1 ⟨rfl, rfl⟩
          go_wp2
          go_ret2
          exact ⟨by rw [Hy.out]; rfl, (Below.refl _ _)⟩
        | false =>
          have Hn := nextP_no hm hp
          have Hy := Lib.hid (HT.out.trans Hn.1)
          have hm2 := Hn.2
          clear Hn
          go_wp2_with fail
          refine (isPrime_c _ _ (by omega)).mono ?_
          rw [Int.toNat_natCast, hp]
          rintro e w1 ⟨rfl, rfl⟩
          go_wp2
          go_round
          case rel => exact ⟨m + 1, by go_num, by omega, Hy.out⟩
          case measure => simp [intOf]; omega

end Go.Proofs.Ytmjjpgafecmljaa
