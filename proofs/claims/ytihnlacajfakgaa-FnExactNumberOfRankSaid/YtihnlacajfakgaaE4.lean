import Derived.Test.YtihnlacajfakgaaE1
import Derived.IntWalk
namespace Go.Proofs.Ytihnlacajfakgaa
open Go.RowKit
set_option linter.unusedVariables false
set_option linter.unusedSimpArgs false

/-- The steps k + 1, k, .., 2, backwards. -/
def riseF : Nat → Int → Int
  | 0, p => p
  | k + 1, p => riseF k (p + (p - 1) / ((k : Int) + 1))
theorem rise_step (p x : Int) (h1 : 1 ≤ p) (h2 : 1 ≤ x) : 0 ≤ (p - 1) / x ∧ (p - 1) / x ≤ p - 1 :=
  ⟨Int.ediv_nonneg (by omega) (by omega), Int.ediv_le_self _ (by omega)⟩
theorem rise_ge : ∀ (k : Nat) (p : Int), 1 ≤ p → p ≤ riseF k p
  | 0, p, _ => Int.le_refl _
  | k + 1, p, h => by
    have h1 := rise_step p ((k : Int) + 1) h (by omega)
    have := rise_ge k (p + (p - 1) / ((k : Int) + 1)) (by omega)
    rw [riseF]
    omega
theorem rise_max : ∀ r : Nat, r < 31 → riseF r ((r : Int) + 1) ≤ 1000 := by decide
theorem rise_one (r : Nat) : riseF (r + 1) ((r : Int) + 1) = riseF r ((r : Int) + 1) := by
  rw [riseF, Int.add_sub_cancel, Int.ediv_eq_zero_of_lt (by omega) (by omega), Int.add_zero]

def riseOk (r : Int) : Bool := inB r 0 30
def riseV (r : Int) : Int := if riseOk r then riseF r.toNat (r + 1) else 0
theorem riseV_no {r : Int} (h : riseOk r = false) : riseV r = 0 := by rw [riseV, h]; rfl
theorem riseV_yes {r : Nat} (h : riseOk (r : Int) = true) : riseV (r : Int) = riseF r ((r : Int) + 1) := by rw [riseV, h, Int.toNat_natCast]; rfl

set_option maxHeartbeats 400000 in
theorem placeBefore_c (p s : Int) (w : World) (h1 : 1 ≤ p) (h2 : p ≤ 1000000000000) (h3 : 2 ≤ s) (h4 : s ≤ 1000000000) :
    Calls Try.prog 64 #[.int .i64 p, .int .i64 s] w fun e w' => e = .returned (.int .i64 (p + (p - 1) / (s - 1))) ∧ w = w' := by
  obtain ⟨a1, a2⟩ := rise_step p (s - 1) h1 (by omega)
  have hz : (s - 1 == 0) = false := by simp; omega
  go_enter Try.func64, Try.ntmps64
  go_wp2
  go_ret
  exact ⟨rfl, rfl⟩

set_option maxRecDepth 100000 in
set_option maxHeartbeats 400000 in
theorem spec_RisingOfRank_c (w : World) (r : Int) :
    Calls Try.prog 44 #[.int .i64 r] w fun en w' => en = .returned (.tuple #[.int .i64 (riseV r), .bool (riseOk r)]) ∧ Below w.heap.size w w' := by
  cases hg : inB r 0 30 with
  | false =>
    have ho : riseOk r = false := hg
    rw [riseV_no ho, ho]
    clear ho
    go_enter Try.func44, Try.ntmps44
    go_wp2_with fail
    refine (l1In_c _ _ _ _).mono ?_
    rintro e w1 ⟨rfl, rfl⟩
    go_wp2
    go_ret2
    exact ⟨rfl, (Below.refl _ _)⟩
  | true =>
    have ho : riseOk r = true := hg
    obtain ⟨r1, r2⟩ := inB_true.1 hg
    obtain ⟨R, rfl⟩ := Int.eq_ofNat_of_zero_le r1
    rw [riseV_yes ho, ho]
    clear ho
    have hmax := rise_max R (by omega)
    have Hg := Lib.hid hg
    go_enter Try.func44, Try.ntmps44
    go_wp2_with fail
    refine (l1In_c _ _ _ _).mono ?_
    rintro e w1 ⟨rfl, rfl⟩
    go_wp2
    go_loop [4, 5] (fun q i => ∃ (k : Nat) (p : Int), k ≤ R + 1 ∧ i = .int .i64 ((k : Int) + 1) ∧ q = .int .i64 p ∧ 1 ≤ p ∧ riseF k p = riseF R ((R : Int) + 1)) (fun _ i => (intOf i).toNat)
    case atStart => exact ⟨R + 1, (R : Int) + 1, Nat.le_refl _, by go_num, rfl, by omega, rise_one R⟩
    case round =>
      obtain ⟨k, p, hk, rfl, rfl, p1, hf⟩ := hrel
      have hp := rise_ge k p p1
      have hp2 : p ≤ 1000 := by omega
      have Hf := Lib.hid hf
      clear hf hp
      cases k with
      | zero =>
        go_wp2
        go_ret2
        exact ⟨by rw [← Hf.out]; rfl, (Below.refl _ _)⟩
      | succ k =>
        obtain ⟨a1, a2⟩ := rise_step p ((k : Int) + 1) p1 (by omega)
        have hz : ((k : Int) + 1 == 0) = false := by simp; omega
        have e1 : (k : Int) + 1 + 1 - 1 = (k : Int) + 1 := by omega
        go_wp2
        go_round
        case rel => exact ⟨k, p + (p - 1) / ((k : Int) + 1), by omega, by go_num, rfl, by omega, Hf.out⟩
        case measure => simp [intOf]; omega

set_option maxRecDepth 100000 in
set_option maxHeartbeats 400000 in
theorem impl_RisingOfRank_c (w : World) (r : Int) :
    Calls Try.prog 45 #[.int .i64 r] w fun en w' => en = .returned (.tuple #[.int .i64 (riseV r), .bool (riseOk r)]) ∧ Below w.heap.size w w' := by
  by_cases hg : 0 ≤ r
  rotate_left
  · skip
    have ho : riseOk r = false := inB_false.2 (by omega)
    rw [riseV_no ho, ho]
    clear ho
    go_enter Try.func45, Try.ntmps45
    go_wp2
    go_ret2
    exact ⟨rfl, (Below.refl _ _)⟩
  · skip
    by_cases hh : r ≤ 30
    rotate_left
    · skip
      have ho : riseOk r = false := inB_false.2 (by omega)
      rw [riseV_no ho, ho]
      clear ho
      go_enter Try.func45, Try.ntmps45
      go_wp2
      go_ret2
      exact ⟨rfl, (Below.refl _ _)⟩
    · skip
      have ho : riseOk r = true := inB_true.2 (by omega)
      obtain ⟨R, rfl⟩ := Int.eq_ofNat_of_zero_le hg
      rw [riseV_yes ho, ho]
      clear ho
      have hmax := rise_max R (by omega)
      go_enter Try.func45, Try.ntmps45
      go_wp2
      go_loop [4, 5] (fun q i => ∃ (k : Nat) (p : Int), k ≤ R ∧ i = .int .i64 ((k : Int) + 1) ∧ q = .int .i64 p ∧ 1 ≤ p ∧ riseF k p = riseF R ((R : Int) + 1)) (fun _ i => (intOf i).toNat)
      case atStart => exact ⟨R, (R : Int) + 1, Nat.le_refl _, by go_num, rfl, by omega, rfl⟩
      case round =>
        obtain ⟨k, p, hk, rfl, rfl, p1, hf⟩ := hrel
        have hp := rise_ge k p p1
        have hp2 : p ≤ 1000 := by omega
        have Hf := Lib.hid hf
        clear hf hp
        cases k with
        | zero =>
          go_wp2
          go_ret2
          exact ⟨by rw [← Hf.out]; rfl, (Below.refl _ _)⟩
        | succ k =>
          obtain ⟨a1, a2⟩ := rise_step p ((k : Int) + 1) p1 (by omega)
          have e1 : (k : Int) + 1 + 1 - 1 = (k : Int) + 1 := by omega
          go_wp2_with (go_at_call 64; refine (placeBefore_c _ _ _ p1 (by omega) (by omega) (by omega)).mono ?_; rintro e w' ⟨rfl, rfl⟩)
          go_round
          case rel => exact ⟨k, p + (p - 1) / ((k : Int) + 1), by omega, by go_num, by first | rfl | (rw [e1]) | (simp), by omega, Hf.out⟩
          case measure => simp [intOf]; omega

/-- The last one of a circle, counted from 0. -/
def lastF (k : Int) : Nat → Int
  | 0 => 0
  | m + 1 => (lastF k m + k) % ((m : Int) + 1)
theorem last_lo (k : Int) : ∀ m, 0 ≤ lastF k m
  | 0 => Int.le_refl _
  | m + 1 => Int.emod_nonneg _ (by omega)
theorem last_hi (k : Int) (m : Nat) : lastF k (m + 1) ≤ m := by
  have := Int.emod_lt_of_pos (lastF k m + k) (b := (m : Int) + 1) (by omega)
  rw [lastF]
  omega
theorem last_one (k : Int) : lastF k 1 = 0 := by simp [lastF]
def lastOk (n k : Int) : Bool := inB n 1 100 && inB k 1 1000
def lastV (n k : Int) : Int := if lastOk n k then lastF k n.toNat + 1 else 0
theorem lastV_no {n k : Int} (h : lastOk n k = false) : lastV n k = 0 := by rw [lastV, h]; rfl
theorem lastV_yes {n : Nat} {k : Int} (h : lastOk (n : Int) k = true) : lastV (n : Int) k = lastF k n + 1 := by rw [lastV, h, Int.toNat_natCast]; rfl

set_option maxHeartbeats 400000 in
theorem isCircle_c (n k : Int) (w : World) :
    Calls Try.prog 74 #[.int .i64 n, .int .i64 k] w fun e w' => e = .returned (.bool (lastOk n k)) ∧ w = w' := by
  by_cases h1 : 1 ≤ n
  · by_cases h2 : n ≤ 100
    · by_cases h3 : 1 ≤ k
      · by_cases h4 : k ≤ 1000
        · rw [show lastOk n k = true by simp [lastOk, inB, *]]
          go_enter Try.func74, Try.ntmps74
          go_wp2
          go_ret
          exact ⟨rfl, rfl⟩
        · rw [show lastOk n k = false by simp [lastOk, inB, *]]
          go_enter Try.func74, Try.ntmps74
          go_wp2
          go_ret
          exact ⟨rfl, rfl⟩
      · rw [show lastOk n k = false by simp [lastOk, inB, *]]
        go_enter Try.func74, Try.ntmps74
        go_wp2
        go_ret
        exact ⟨rfl, rfl⟩
    · rw [show lastOk n k = false by simp [lastOk, inB, *]]
      go_enter Try.func74, Try.ntmps74
      go_wp2
      go_ret
      exact ⟨rfl, rfl⟩
  · rw [show lastOk n k = false by simp [lastOk, inB, *]]
    go_enter Try.func74, Try.ntmps74
    go_wp2
    go_ret
    exact ⟨rfl, rfl⟩

set_option maxRecDepth 100000 in
set_option maxHeartbeats 400000 in
theorem spec_LastOfCircle_c (w : World) (n k : Int) :
    Calls Try.prog 50 #[.int .i64 n, .int .i64 k] w fun en w' => en = .returned (.tuple #[.int .i64 (lastV n k), .bool (lastOk n k)]) ∧ Below w.heap.size w w' := by
  cases hg : inB n 1 100 with
  | false =>
    have ho : lastOk n k = false := by simp [lastOk, *]
    rw [lastV_no ho, ho]
    clear ho
    go_enter Try.func50, Try.ntmps50
    go_wp2_with fail
    refine (l1In_c _ _ _ _).mono ?_
    rintro e w1 ⟨rfl, rfl⟩
    go_wp2
    go_ret2
    exact ⟨rfl, (Below.refl _ _)⟩
  | true =>
    cases hh : inB k 1 1000 with
    | false =>
      have ho : lastOk n k = false := by simp [lastOk, *]
      rw [lastV_no ho, ho]
      clear ho
      go_enter Try.func50, Try.ntmps50
      go_wp2_with fail
      refine (l1In_c _ _ _ _).mono ?_
      rintro e w1 ⟨rfl, rfl⟩
      go_wp2_with fail
      refine (l1In_c _ _ _ _).mono ?_
      rintro e w2 ⟨rfl, rfl⟩
      go_wp2
      go_ret2
      exact ⟨rfl, (Below.refl _ _)⟩
    | true =>
      have ho : lastOk n k = true := by simp [lastOk, *]
      obtain ⟨n1, n2⟩ := inB_true.1 hg
      obtain ⟨k1, k2⟩ := inB_true.1 hh
      obtain ⟨N, rfl⟩ := Int.eq_ofNat_of_zero_le (Int.le_trans (by omega) n1)
      rw [lastV_yes ho, ho]
      clear ho
      have Hg := Lib.hid hg
      have Hh := Lib.hid hh
      go_enter Try.func50, Try.ntmps50
      go_wp2_with fail
      refine (l1In_c _ _ _ _).mono ?_
      rintro e w1 ⟨rfl, rfl⟩
      go_wp2_with fail
      refine (l1In_c _ _ _ _).mono ?_
      rintro e w2 ⟨rfl, rfl⟩
      go_wp2
      go_loop [6, 7] (fun q i => ∃ (m : Nat), m + 1 ≤ N ∧ i = .int .i64 ((m : Int) + 2) ∧ q = .int .i64 (lastF k (m + 1))) (fun _ i => N + 2 - (intOf i).toNat)
      case atStart => exact ⟨0, by omega, rfl, by rw [last_one]⟩
      case round =>
        obtain ⟨m, hm, rfl, rfl⟩ := hrel
        have hl := last_lo k (m + 1)
        have hl2 := last_hi k m
        by_cases hlt : m + 2 ≤ N
        · have hz : ((m : Int) + 2 == 0) = false := by simp; omega
          have Hs : Hid ((lastF k (m + 1) + k) % ((m : Int) + 2) = lastF k (m + 1 + 1)) := by
            show _ = (lastF k (m + 1) + k) % (((m + 1 : Nat) : Int) + 1)
            congr 1
          have q1 := Int.emod_nonneg (lastF k (m + 1) + k) (b := (m : Int) + 2) (by omega)
          have q2 := Int.emod_lt_of_pos (lastF k (m + 1) + k) (b := (m : Int) + 2) (by omega)
          go_wp2
          go_round
          case rel => exact ⟨m + 1, by omega, by go_num, by rw [← Hs.out]⟩
          case measure => simp [intOf]; omega
        · have hmN : N = m + 1 := by omega
          have Hm := Lib.hid hmN
          clear hmN
          go_wp2
          go_ret2
          exact ⟨by rw [Hm.out]; rfl, (Below.refl _ _)⟩

set_option maxRecDepth 100000 in
set_option maxHeartbeats 400000 in
theorem impl_LastOfCircle_c (w : World) (n k : Int) :
    Calls Try.prog 51 #[.int .i64 n, .int .i64 k] w fun en w' => en = .returned (.tuple #[.int .i64 (lastV n k), .bool (lastOk n k)]) ∧ Below w.heap.size w w' := by
  cases ho : lastOk n k with
  | false =>
    rw [lastV_no ho]
    go_enter Try.func51, Try.ntmps51
    go_wp2_with fail
    refine (isCircle_c _ _ _).mono ?_
    rintro e w1 ⟨rfl, rfl⟩
    go_wp2
    go_ret2
    exact ⟨rfl, (Below.refl _ _)⟩
  | true =>
    obtain ⟨n1, n2⟩ : 1 ≤ n ∧ n ≤ 100 := inB_true.1 (by rw [lastOk, Bool.and_eq_true] at ho; exact ho.1)
    obtain ⟨k1, k2⟩ : 1 ≤ k ∧ k ≤ 1000 := inB_true.1 (by rw [lastOk, Bool.and_eq_true] at ho; exact ho.2)
    obtain ⟨N, rfl⟩ := Int.eq_ofNat_of_zero_le (Int.le_trans (by omega) n1)
    rw [lastV_yes ho]
    have Ho := Lib.hid ho
    go_enter Try.func51, Try.ntmps51
    go_wp2_with fail
    refine (isCircle_c _ _ _).mono ?_
    rintro e w1 ⟨rfl, rfl⟩
    go_wp2
    go_loop [6, 7] (fun q i => ∃ (m : Nat), m + 1 ≤ N ∧ i = .int .i64 ((m : Int) + 2) ∧ q = .int .i64 (lastF k (m + 1) + 1)) (fun _ i => N + 2 - (intOf i).toNat)
    case atStart => exact ⟨0, by omega, rfl, by rw [last_one]; rfl⟩
    case round =>
      obtain ⟨m, hm, rfl, rfl⟩ := hrel
      have hl := last_lo k (m + 1)
      have hl2 := last_hi k m
      by_cases hlt : m + 2 ≤ N
      · have hz : ((m : Int) + 2 == 0) = false := by simp; omega
        have e1 : lastF k (m + 1) + 1 + k - 1 = lastF k (m + 1) + k := by omega
        have Hs : Hid ((lastF k (m + 1) + k) % ((m : Int) + 2) = lastF k (m + 1 + 1)) := by
          show _ = (lastF k (m + 1) + k) % (((m + 1 : Nat) : Int) + 1)
          congr 1
        have q1 := Int.emod_nonneg (lastF k (m + 1) + k) (b := (m : Int) + 2) (by omega)
        have q2 := Int.emod_lt_of_pos (lastF k (m + 1) + k) (b := (m : Int) + 2) (by omega)
        go_wp2
        go_round
        case rel => exact ⟨m + 1, by omega, by go_num, by rw [← Hs.out]⟩
        case measure => simp [intOf]; omega
      · have hmN : N = m + 1 := by omega
        have Hm := Lib.hid hmN
        clear hmN
        go_wp2
        go_ret2
        exact ⟨by rw [Hm.out]; rfl, (Below.refl _ _)⟩

end Go.Proofs.Ytihnlacajfakgaa
