import Derived.Test.YtaapfapejekkfaaN0
import Derived.Test.YtaapfapejekkfaaP2
import Derived.Test.YtaapfapejekkfaaL0
import Derived.StillTailTactics
import Derived.Test.YtaapfapejekkfaaS3
namespace Go.Proofs.Ytaapfapejekkfaa
open Go.RowKit
set_option linter.unusedVariables false
set_option linter.unusedSimpArgs false

theorem hasF_flF {p : Nat → Bool} {a k n : Nat} (h1 : a ≤ n) (h2 : n < a + k) : hasF (flF p a k) (n : Int) = p n := by
  rw [Bool.eq_iff_iff, hasF_mem, flF, List.mem_map]
  constructor
  · rintro ⟨i, hi, e⟩
    have := (List.mem_filter.1 hi).2
    rwa [show a + i = n by omega] at this
  · intro hp
    exact ⟨n - a, List.mem_filter.2 ⟨List.mem_range.2 (by omega), by rw [show a + (n - a) = n by omega]; exact hp⟩, by omega⟩

set_option maxHeartbeats 800000 in
theorem gSame_c (A B : Option Addr) (n m c d : Nat) (xs : List Int) (w : World) (hA : Il w A xs) (hB : Il w B xs) (hn : n = xs.length) (hm : m = xs.length) (hn1 : n ≤ 1048576) :
    Calls Try.prog 59 #[.slice A n c, .slice B m d] w fun en w' => en = .returned (.bool true) ∧ Below w.heap.size w w' := by
  have hnm : m = n := by rw [hn, hm]
  subst hnm
  have Hn := Lib.hid hn
  clear hn hm
  go_enter Try.func59, Try.ntmps59
  go_wp2
  go_loopw [13] (fun i wr => ∃ k : Nat, k ≤ m ∧ i = .int .i64 k ∧ Below w.heap.size w wr) (fun i _ => m - (intOf i).toNat)
  case atStart => exact ⟨0, Nat.zero_le _, rfl, Below.refl _ _⟩
  case round =>
    obtain ⟨k, hk, rfl, hbel⟩ := hrel
    by_cases hlt : k < m
    · have hlt1 : k < xs.length := by have := Hn.out; omega
      obtain ⟨b, off, rfl, hb, hr⟩ := hA (by omega)
      obtain ⟨b2, off2, rfl, hb2, hr2⟩ := hB (by omega)
      have hc0 := (hbel.cell (p := ⟨b, off + k, none⟩) hb).trans (hr k hlt1)
      have hd0 := (hbel.cell (p := ⟨b2, off2 + k, none⟩) hb2).trans (hr2 k hlt1)
      have hi1 : (k : Int) < (m : Int) := by omega
      have hne : (ivL xs k != ivL xs k) = false := by simp
      go_wp2_with fail
      go_quiet (fail)
      go_wp2
      go_roundw
      case rel => exact ⟨k + 1, by omega, by go_num, below_drewN hbel _⟩
      case measure => simp [intOf]; omega
    · go_wp2
      go_ret
      exact ⟨rfl, hbel⟩
set_option maxRecDepth 100000 in
set_option maxHeartbeats 400000 in
theorem gHas_c (w : World) (A : Option Addr) (m c : Nat) (xs : List Int) (hA : Il w A xs) (hm : m = xs.length) (hn : m ≤ 1048576) (s : Int) :
    Calls Try.prog 101 #[.slice A m c, .int .i64 s] w fun en w' => en = .returned (.bool (hasF xs s)) ∧ w = w' := by
  have Hm := Lib.hid hm
  clear hm
  go_enter Try.func101, Try.ntmps101
  go_wp2
  go_loop [9] (fun i => ∃ k : Nat, k ≤ m ∧ i = .int .i64 k ∧ (∀ j, j < k → ivL xs j ≠ s)) (fun i => m - (intOf i).toNat)
  case atStart => exact ⟨0, Nat.zero_le _, rfl, by omega⟩
  case round =>
    obtain ⟨k, hk, rfl, hall⟩ := hrel
    have Hall := Lib.hid hall
    clear hall
    by_cases hlt : k < m
    · have hlt1 : k < xs.length := by have := Hm.out; omega
      obtain ⟨b, off, rfl, hb, hr⟩ := hA (by omega)
      have hc0 := hr k hlt1
      clear hlt1
      obtain ⟨x, hx⟩ : ∃ x, ivL xs k = x := ⟨_, rfl⟩
      rw [hx] at hc0
      by_cases hs : x = s
      · have Hy := Lib.hid (hasF_yes (s := s) (by have := Hm.out; omega) (hx.trans hs))
        have hsb : (x == s) = true := beq_iff_eq.2 hs
        clear hs hx
        go_wp2
        go_ret
        exact ⟨by rw [Hy.out]; rfl, rfl⟩
      · have Hall2 := Lib.hid (fun j (hj : j < k + 1) => show ivL xs j ≠ s by
          rcases Nat.lt_succ_iff_lt_or_eq.1 hj with h | h
          · exact Hall.out j h
          · rw [h, hx]; exact hs)
        have hsb : (x == s) = false := beq_eq_false_iff_ne.2 hs
        clear hs hx
        go_wp2
        go_round
        case rel => exact ⟨k + 1, by omega, by go_num, Hall2.out⟩
        case measure => simp [intOf]; omega
    · have Hy := Lib.hid (hasF_no (xs := xs) (s := s) fun j hj => Hall.out j (by have := Hm.out; omega))
      go_wp2
      go_ret
      exact ⟨by rw [Hy.out]; rfl, rfl⟩

set_option maxHeartbeats 800000 in
theorem tSame_c (A B : Option Addr) (n m c d : Nat) (xs : List Int) (w : World) (hA : Il w A xs) (hB : Il w B xs) (hn : n = xs.length) (hm : m = xs.length) (hn1 : n ≤ 1048576) :
    Calls Try.prog 68 #[.slice A n c, .slice B m d] w fun en w' => en = .returned (.bool true) ∧ Below w.heap.size w w' := by
  have hnm : m = n := by rw [hn, hm]
  subst hnm
  have Hn := Lib.hid hn
  clear hn hm
  go_enter Try.func68, Try.ntmps68
  go_wp2
  go_loopw [13] (fun i wr => ∃ k : Nat, k ≤ m ∧ i = .int .i64 k ∧ Below w.heap.size w wr) (fun i _ => m - (intOf i).toNat)
  case atStart => exact ⟨0, Nat.zero_le _, rfl, Below.refl _ _⟩
  case round =>
    obtain ⟨k, hk, rfl, hbel⟩ := hrel
    by_cases hlt : k < m
    · have hlt1 : k < xs.length := by have := Hn.out; omega
      obtain ⟨b, off, rfl, hb, hr⟩ := hA (by omega)
      obtain ⟨b2, off2, rfl, hb2, hr2⟩ := hB (by omega)
      have hc0 := (hbel.cell (p := ⟨b, off + k, none⟩) hb).trans (hr k hlt1)
      have hd0 := (hbel.cell (p := ⟨b2, off2 + k, none⟩) hb2).trans (hr2 k hlt1)
      have hi1 : (k : Int) < (m : Int) := by omega
      have hne : (ivL xs k != ivL xs k) = false := by simp
      go_wp2_with fail
      go_quiet (fail)
      go_wp2
      go_roundw
      case rel => exact ⟨k + 1, by omega, by go_num, below_drewN hbel _⟩
      case measure => simp [intOf]; omega
    · go_wp2
      go_ret
      exact ⟨rfl, hbel⟩
set_option maxRecDepth 100000 in
set_option maxHeartbeats 400000 in
theorem tHas_c (w : World) (A : Option Addr) (m c : Nat) (xs : List Int) (hA : Il w A xs) (hm : m = xs.length) (hn : m ≤ 1048576) (s : Int) :
    Calls Try.prog 74 #[.slice A m c, .int .i64 s] w fun en w' => en = .returned (.bool (hasF xs s)) ∧ w = w' := by
  have Hm := Lib.hid hm
  clear hm
  go_enter Try.func74, Try.ntmps74
  go_wp2
  go_loop [9] (fun i => ∃ k : Nat, k ≤ m ∧ i = .int .i64 k ∧ (∀ j, j < k → ivL xs j ≠ s)) (fun i => m - (intOf i).toNat)
  case atStart => exact ⟨0, Nat.zero_le _, rfl, by omega⟩
  case round =>
    obtain ⟨k, hk, rfl, hall⟩ := hrel
    have Hall := Lib.hid hall
    clear hall
    by_cases hlt : k < m
    · have hlt1 : k < xs.length := by have := Hm.out; omega
      obtain ⟨b, off, rfl, hb, hr⟩ := hA (by omega)
      have hc0 := hr k hlt1
      clear hlt1
      obtain ⟨x, hx⟩ : ∃ x, ivL xs k = x := ⟨_, rfl⟩
      rw [hx] at hc0
      by_cases hs : x = s
      · have Hy := Lib.hid (hasF_yes (s := s) (by have := Hm.out; omega) (hx.trans hs))
        have hsb : (x == s) = true := beq_iff_eq.2 hs
        clear hs hx
        go_wp2
        go_ret
        exact ⟨by rw [Hy.out]; rfl, rfl⟩
      · have Hall2 := Lib.hid (fun j (hj : j < k + 1) => show ivL xs j ≠ s by
          rcases Nat.lt_succ_iff_lt_or_eq.1 hj with h | h
          · exact Hall.out j h
          · rw [h, hx]; exact hs)
        have hsb : (x == s) = false := beq_eq_false_iff_ne.2 hs
        clear hs hx
        go_wp2
        go_round
        case rel => exact ⟨k + 1, by omega, by go_num, Hall2.out⟩
        case measure => simp [intOf]; omega
    · have Hy := Lib.hid (hasF_no (xs := xs) (s := s) fun j hj => Hall.out j (by have := Hm.out; omega))
      go_wp2
      go_ret
      exact ⟨by rw [Hy.out]; rfl, rfl⟩

end Go.Proofs.Ytaapfapejekkfaa

namespace Go.Proofs.Ytaapfapejekkfaa
open Go.RowKit
set_option maxRecDepth 100000
set_option linter.unusedVariables false
set_option linter.unusedSimpArgs false

/-- The sum of the first k numbers. -/
def sumZ (xs : List Int) : Nat → Int
  | 0 => 0
  | k + 1 => sumZ xs k + ivL xs k
theorem sumZ_bound {xs : List Int} (h : ∀ k, k < xs.length → 0 ≤ ivL xs k ∧ ivL xs k ≤ 1000000000) : ∀ k, k ≤ xs.length → 0 ≤ sumZ xs k ∧ sumZ xs k ≤ 1000000000 * (k : Int)
  | 0, _ => ⟨Int.le_refl _, by rw [sumZ]; omega⟩
  | k + 1, hk => by
    have a := sumZ_bound h k (by omega)
    have b := h k (by omega)
    rw [sumZ]
    omega

set_option maxHeartbeats 800000 in
theorem gSame_q (A B : Option Addr) (n m c d : Nat) (xs : List Int) (w : World) (hA : Il w A xs) (hB : Il w B xs) (hn : n = xs.length) (hm : m = xs.length) (hn1 : n ≤ 1048576) :
    Calls Try.prog 59 #[.slice A n c, .slice B m d] w fun en w' => en = .returned (.bool true) ∧ ∃ k, w' = w.drewN k := by
  have hnm : m = n := by rw [hn, hm]
  subst hnm
  have Hn := Lib.hid hn
  clear hn hm
  go_enter Try.func59, Try.ntmps59
  go_wp2
  go_loopw [13] (fun i wr => ∃ k nd : Nat, k ≤ m ∧ i = .int .i64 k ∧ wr = w.drewN nd) (fun i _ => m - (intOf i).toNat)
  case atStart => exact ⟨0, 0, Nat.zero_le _, rfl, rfl⟩
  case round =>
    obtain ⟨k, nd, hk, rfl, rfl⟩ := hrel
    by_cases hlt : k < m
    · have hlt1 : k < xs.length := by have := Hn.out; omega
      obtain ⟨b, off, rfl, hb, hr⟩ := hA (by omega)
      obtain ⟨b2, off2, rfl, hb2, hr2⟩ := hB (by omega)
      have hc0 := hr k hlt1
      have hd0 := hr2 k hlt1
      have hi1 : (k : Int) < (m : Int) := by omega
      have hne : (ivL xs k != ivL xs k) = false := by simp
      go_wp2_with fail
      go_quiet (fail)
      go_wp2
      go_roundw
      case rel => exact ⟨k + 1, _, by omega, by go_num, rfl⟩
      case measure => simp [intOf]; omega
    · go_wp2
      go_ret
      exact ⟨rfl, nd, rfl⟩
set_option maxHeartbeats 800000 in
theorem gSum_c (w : World) (A : Option Addr) (m c : Nat) (xs : List Int) (hA : Il w A xs) (hm : m = xs.length) (hn : m ≤ 1048576) (hb : ∀ k, k < xs.length → 0 ≤ ivL xs k ∧ ivL xs k ≤ 1000000000) :
    Calls Try.prog 62 #[.slice A m c] w fun en w' => en = .returned (.int .i64 (sumZ xs m)) ∧ Below w.heap.size w w' := by
  have Hm := Lib.hid hm
  have Hb := Lib.hid (sumZ_bound hb)
  have Hb1 := Lib.hid hb
  clear hm hb
  go_enter Try.func62, Try.ntmps62
  go_wp2
  go_loopw [3, 8] (fun s i wr => ∃ k : Nat, k ≤ m ∧ i = .int .i64 k ∧ s = .int .i64 (sumZ xs k) ∧ Below w.heap.size w wr) (fun s i _ => m - (intOf i).toNat)
  case atStart => exact ⟨0, Nat.zero_le _, rfl, rfl, Below.refl _ _⟩
  case round =>
    obtain ⟨k, hk, rfl, rfl, hbel⟩ := hrel
    by_cases hlt : k < m
    · have hlt1 : k < xs.length := by have := Hm.out; omega
      obtain ⟨b, off, rfl, hb, hr⟩ := hA (by omega)
      have hc0 := (hbel.cell (p := ⟨b, off + k, none⟩) hb).trans (hr k hlt1)
      have hi1 : (k : Int) < (m : Int) := by omega
      have hz := Hb.out k (by omega)
      have hz1 := Hb1.out k hlt1
      obtain ⟨Z, hZ⟩ : ∃ z, sumZ xs k = z := ⟨_, rfl⟩
      obtain ⟨X, hX⟩ : ∃ x, ivL xs k = x := ⟨_, rfl⟩
      have Hk := Lib.hid (show sumZ xs (k + 1) = Z + X by rw [sumZ, hZ, hX])
      rw [hZ] at hz ⊢
      rw [hX] at hz1 hc0
      clear hZ hX
      have hwr : IntKind.i64.wrap (Z + X) = Z + X := IntWalk.i64_in _ (by omega)
      go_wp2
      go_roundw
      case rel => exact ⟨k + 1, by omega, by go_num, by rw [Hk.out], by first | exact hbel | exact hbel.drew⟩
      case measure => simp [intOf]; omega
    · obtain rfl : k = m := by omega
      go_wp2
      go_ret
      exact ⟨rfl, hbel⟩

set_option maxHeartbeats 800000 in
theorem tSame_q (A B : Option Addr) (n m c d : Nat) (xs : List Int) (w : World) (hA : Il w A xs) (hB : Il w B xs) (hn : n = xs.length) (hm : m = xs.length) (hn1 : n ≤ 1048576) :
    Calls Try.prog 68 #[.slice A n c, .slice B m d] w fun en w' => en = .returned (.bool true) ∧ ∃ k, w' = w.drewN k := by
  have hnm : m = n := by rw [hn, hm]
  subst hnm
  have Hn := Lib.hid hn
  clear hn hm
  go_enter Try.func68, Try.ntmps68
  go_wp2
  go_loopw [13] (fun i wr => ∃ k nd : Nat, k ≤ m ∧ i = .int .i64 k ∧ wr = w.drewN nd) (fun i _ => m - (intOf i).toNat)
  case atStart => exact ⟨0, 0, Nat.zero_le _, rfl, rfl⟩
  case round =>
    obtain ⟨k, nd, hk, rfl, rfl⟩ := hrel
    by_cases hlt : k < m
    · have hlt1 : k < xs.length := by have := Hn.out; omega
      obtain ⟨b, off, rfl, hb, hr⟩ := hA (by omega)
      obtain ⟨b2, off2, rfl, hb2, hr2⟩ := hB (by omega)
      have hc0 := hr k hlt1
      have hd0 := hr2 k hlt1
      have hi1 : (k : Int) < (m : Int) := by omega
      have hne : (ivL xs k != ivL xs k) = false := by simp
      go_wp2_with fail
      go_quiet (fail)
      go_wp2
      go_roundw
      case rel => exact ⟨k + 1, _, by omega, by go_num, rfl⟩
      case measure => simp [intOf]; omega
    · go_wp2
      go_ret
      exact ⟨rfl, nd, rfl⟩

set_option maxHeartbeats 800000 in
theorem tRises_c (w : World) (A : Option Addr) (m c : Nat) (xs : List Int) (lo hi : Int) (hA : Il w A xs) (hm : m = xs.length) (hn : m ≤ 1048576) (hb : ∀ k, k < xs.length → lo ≤ ivL xs k ∧ ivL xs k ≤ hi ∧ ∀ j, k = j + 1 → ivL xs j < ivL xs k) :
    Calls Try.prog 71 #[.slice A m c, .int .i64 lo, .int .i64 hi] w fun en w' => en = .returned (.bool true) ∧ Below w.heap.size w w' := by
  have Hm := Lib.hid hm
  have Hb := Lib.hid hb
  clear hm hb
  go_enter Try.func71, Try.ntmps71
  go_wp2
  go_loopw [11] (fun i wr => ∃ k : Nat, k ≤ m ∧ i = .int .i64 k ∧ Below w.heap.size w wr) (fun i _ => m - (intOf i).toNat)
  case atStart => exact ⟨0, Nat.zero_le _, rfl, Below.refl _ _⟩
  case round =>
    obtain ⟨k, hk, rfl, hbel⟩ := hrel
    by_cases hlt : k < m
    · have hlt1 : k < xs.length := by have := Hm.out; omega
      obtain ⟨b, off, rfl, hb, hr⟩ := hA (by omega)
      have hc0 := (hbel.cell (p := ⟨b, off + k, none⟩) hb).trans (hr k hlt1)
      have hi1 : (k : Int) < (m : Int) := by omega
      obtain ⟨g1, g2, g3⟩ := Hb.out k hlt1
      cases k with
      | zero =>
        obtain ⟨X, hX⟩ : ∃ x, ivL xs 0 = x := ⟨_, rfl⟩
        rw [hX] at hc0 g1 g2
        clear g3 hX
        rw [Nat.add_zero] at hc0
        have t1 : decide (X < lo) = false := decide_eq_false (by omega)
        have t2 : decide (hi < X) = false := decide_eq_false (by omega)
        go_wp2
        go_roundw
        case rel => exact ⟨1, by omega, rfl, by first | exact hbel | exact hbel.drew⟩
        case measure => simp [intOf]; omega
      | succ q =>
        have hcq := (hbel.cell (p := ⟨b, off + q, none⟩) hb).trans (hr q (by omega))
        have g4 := g3 q rfl
        clear g3
        obtain ⟨X, hX⟩ : ∃ x, ivL xs (q + 1) = x := ⟨_, rfl⟩
        obtain ⟨Y, hY⟩ : ∃ x, ivL xs q = x := ⟨_, rfl⟩
        rw [hX] at hc0 g1 g2 g4
        rw [hY] at hcq g4
        clear hX hY
        have t1 : decide (X < lo) = false := decide_eq_false (by omega)
        have t2 : decide (hi < X) = false := decide_eq_false (by omega)
        have t3 : decide (X ≤ Y) = false := decide_eq_false (by omega)
        have t4 : ((q + 1 : Nat) : Int) - 1 = (q : Int) := by omega
        have t5 : (0 : Int) < ((q + 1 : Nat) : Int) := by omega
        have t6 : decide ((0 : Int) < ((q + 1 : Nat) : Int)) = true := decide_eq_true t5
        have t7 : (0 : Int) ≤ (q : Int) := by omega
        have t8 : (q : Int) < (m : Int) := by omega
        go_wp2
        go_roundw
        case rel => exact ⟨q + 1 + 1, by omega, by go_num, by first | exact hbel | exact hbel.drew⟩
        case measure => simp [intOf]; omega
    · go_wp2
      go_ret
      exact ⟨rfl, hbel⟩
theorem eq_ruleT (a b : Int) (w : World) : (Op.equalIn 10000 69 (.agg #[.int .i64 a, .int .i64 b]) (.agg #[.int .i64 a, .int .i64 b])).run Try.prog w = .ok true w := by
  have hu := Try.underlying69
  go_simp
set_option maxHeartbeats 800000 in
theorem tRules_c (A B : Option Addr) (n m c d : Nat) (rs : List (Int × Int)) (w : World) (hA : Rl w A rs) (hB : Rl w B rs) (hn : n = rs.length) (hm : m = rs.length) (hn1 : n ≤ 1048576) :
    Calls Try.prog 158 #[.slice A n c, .slice B m d] w fun en w' => en = .returned (.bool true) ∧ Below w.heap.size w w' := by
  have hnm : m = n := by rw [hn, hm]
  subst hnm
  have Hn := Lib.hid hn
  clear hn hm
  go_enter Try.func158, Try.ntmps158
  go_wp2
  go_loopw [13] (fun i wr => ∃ k : Nat, k ≤ m ∧ i = .int .i64 k ∧ Below w.heap.size w wr) (fun i _ => m - (intOf i).toNat)
  case atStart => exact ⟨0, Nat.zero_le _, rfl, Below.refl _ _⟩
  case round =>
    obtain ⟨k, hk, rfl, hbel⟩ := hrel
    by_cases hlt : k < m
    · have hlt1 : k < rs.length := by have := Hn.out; omega
      obtain ⟨b, off, rfl, hb, hr⟩ := hA (by omega)
      obtain ⟨b2, off2, rfl, hb2, hr2⟩ := hB (by omega)
      have hc0 := (hbel.cell (p := ⟨b, off + k * 2, none⟩) hb).trans (hr k hlt1).1
      have hc1 := (hbel.cell (p := ⟨b, off + k * 2 + 1, none⟩) hb).trans (hr k hlt1).2
      have hd0 := (hbel.cell (p := ⟨b2, off2 + k * 2, none⟩) hb2).trans (hr2 k hlt1).1
      have hd1 := (hbel.cell (p := ⟨b2, off2 + k * 2 + 1, none⟩) hb2).trans (hr2 k hlt1).2
      have hi1 : (k : Int) < (m : Int) := by omega
      have heq := eq_ruleT (evL rs k) (reL rs k)
      go_wp2_with fail
      go_still_tail 8, (by kernel_rfl)
      go_wp2
      go_roundw
      case rel => exact ⟨k + 1, by omega, by go_num, hbel.drew⟩
      case measure => simp [intOf]; omega
    · go_wp2
      go_ret
      exact ⟨rfl, hbel⟩

end Go.Proofs.Ytaapfapejekkfaa

namespace Go.Proofs.Ytaapfapejekkfaa
open Go.RowKit
set_option maxRecDepth 100000
set_option linter.unusedVariables false
set_option linter.unusedSimpArgs false

/-! What FnWheelsTurn asks of wheels. -/
theorem ow_strict (p : Int → Bool) : ∀ k, (upF p k).Pairwise (· < ·)
  | 0 => List.Pairwise.nil
  | k + 1 => by
    cases h : p ((k : Int) + 1) with
    | false => rw [upF_no h]; exact ow_strict p k
    | true =>
      rw [upF_yes h, List.pairwise_append]
      refine ⟨ow_strict p k, List.pairwise_singleton _ _, fun x hx y hy => ?_⟩
      rw [List.mem_singleton] at hy
      subst hy
      rw [upF, List.mem_filter, List.mem_map] at hx
      obtain ⟨⟨i, hi, rfl⟩, _⟩ := hx
      have := List.mem_range.1 hi
      omega
theorem ow_get {xs : List Int} {k : Nat} (h : k < xs.length) : ivL xs k = xs[k] := by simp [ivL, h]
theorem ow_lt {rs : List (Int × Int)} {i j : Nat} (hij : i < j) (hj : j < (spk rs).length) : ivL (spk rs) i < ivL (spk rs) j := by
  rw [ow_get hj, ow_get (Nat.lt_trans hij hj)]
  exact (List.pairwise_iff_getElem.1 (ow_strict (leftF rs) (whP rs))) i j _ hj hij
theorem wh_lip {rs : List (Int × Int)} (h : whB rs = true) : perOk rs = true ∧ perV rs = (whP rs : Int) ∧ lipV rs = ((spk rs).length : Int) := by
  obtain ⟨h1, h2, h3, h4, h5, h6, _⟩ := whB_parts h
  have hp : perOk rs = true := by
    rw [perOk, h1, Bool.true_and, Bool.not_eq_true', beq_eq_false_iff_ne]
    omega
  refine ⟨hp, by rw [perV, if_pos h1]; exact h4, ?_⟩
  rw [lip_yes hp, h4, Int.toNat_natCast, spk]
  have hs : ∀ k, cntF (leftF rs) 0 (k + 1) = cntF (leftF rs) 1 k + (if leftF rs 0 then 1 else 0) := fun k => by
    induction k with
    | zero => rw [cntF, cntF, cntF]; simp
    | succ k ih =>
      rw [cntF, ih, cntF]
      have e : ((0 : Nat) : Int) + ((k + 1 : Nat) : Int) = ((1 : Nat) : Int) + (k : Int) := by omega
      rw [e]
      omega
  obtain ⟨q, hq⟩ : ∃ q, whP rs = q + 1 := ⟨whP rs - 1, by omega⟩
  rw [hq, hs, ← cntF_up, cntF]
  have h0 := wh_per1 h 0
  rw [hq, Int.zero_add] at h0
  have e : ((1 : Nat) : Int) + (q : Int) = ((q + 1 : Nat) : Int) := by omega
  rw [e, h0]
theorem nx_at {rs : List (Int × Int)} {q : Nat} (h : q + 1 < (spk rs).length) : stI rs q = ivL (spk rs) (q + 1) - ivL (spk rs) q := by rw [stI, nxS, if_pos h]
theorem st_sum {rs : List (Int × Int)} : ∀ k, k < (spk rs).length → sumZ (stA rs) k = ivL (spk rs) k - ivL (spk rs) 0
  | 0, _ => by rw [sumZ]; omega
  | k + 1, h => by
    rw [sumZ, st_sum k (by omega), stA, stL_at (by omega), nx_at h]
    omega
theorem st_sumA {rs : List (Int × Int)} (h : whB rs = true) : sumZ (stA rs) (spk rs).length = (whP rs : Int) := by
  have h0 := spk_pos h
  obtain ⟨q, hq⟩ : ∃ q, (spk rs).length = q + 1 := ⟨(spk rs).length - 1, by omega⟩
  rw [hq, sumZ, st_sum q (by omega), stA, stL_at (by omega), stI, nxS, if_neg (by omega)]
  omega
theorem st_pos {rs : List (Int × Int)} (h : whB rs = true) : ∀ k, k < (stA rs).length → 1 ≤ ivL (stA rs) k ∧ ivL (stA rs) k ≤ 10000 := fun k hk => by
  rw [stA, stL_len] at hk
  have h1 := stI_bound h hk
  rw [stA, stL_at hk]
  refine ⟨?_, h1.2⟩
  by_cases hq : k + 1 < (spk rs).length
  · have := ow_lt (rs := rs) (i := k) (j := k + 1) (by omega) hq
    rw [nx_at hq]
    omega
  · have := spk_at hk
    have := spk_at (rs := rs) (k := 0) (by omega)
    rw [stI, nxS, if_neg hq]
    omega
theorem is_far {rs : List (Int × Int)} (h : whB rs = true) {k : Nat} (hk : k < (spk rs).length) : isO rs (ivL (spk rs) k + 3 * (whP rs : Int)) = true ∧ isW rs (ivL (spk rs) k + 3 * (whP rs : Int)) = true := by
  have h1 := spk_at hk
  obtain ⟨_, _, _, _, h5, h6, _⟩ := whB_parts h
  have ho : isO rs (ivL (spk rs) k + 3 * (whP rs : Int)) = true := by rw [isO, h, Bool.true_and, inB_true]; omega
  refine ⟨ho, ?_⟩
  rw [isW_yes ho, Int.mul_comm, wh_per h]
  exact h1.2.2
/-- How many spokes are before spoke j. -/
theorem cnt_before {rs : List (Int × Int)} {j : Nat} (hj : j < (spk rs).length) : ∀ k, k ≤ (spk rs).length → cntP (spk rs) (fun x => decide (x < ivL (spk rs) j)) k = min k j
  | 0, _ => by rw [cntP]; omega
  | k + 1, hk => by
    have ih := cnt_before hj k (by omega)
    by_cases hkj : k < j
    · rw [cntP_yes (decide_eq_true (ow_lt hkj hj)), ih]; omega
    · have : ¬ ivL (spk rs) k < ivL (spk rs) j := by
        rcases Nat.lt_or_ge j k with h1 | h1
        · have := ow_lt (rs := rs) h1 (by omega); omega
        · rw [show k = j by omega]; omega
      rw [cntP_no (decide_eq_false this), ih]; omega
theorem spk_idx {rs : List (Int × Int)} (h : whB rs = true) {n : Int} (h1 : 1 ≤ n) (hl : leftF rs n = true) : ∃ j, j < (spk rs).length ∧ ivL (spk rs) j = rkR rs n := by
  obtain ⟨_, _, _, _, h5, h6, _⟩ := whB_parts h
  have hq := Int.emod_nonneg (n - 1) (b := (whP rs : Int)) (by omega)
  have hq2 := Int.emod_lt_of_pos (n - 1) (b := (whP rs : Int)) (by omega)
  have hd := Int.mul_ediv_add_emod (n - 1) (whP rs : Int)
  have hr : rkR rs n = (n - 1) % (whP rs : Int) + 1 := by rw [rkR, Int.mul_comm]; omega
  have hl2 : leftF rs (rkR rs n) = true := by
    have e : n = rkR rs n + (whP rs : Int) * ((n - 1) / (whP rs : Int)) := by rw [rkR, Int.mul_comm]; omega
    rw [e, wh_per h] at hl
    exact hl
  have hm : rkR rs n ∈ spk rs := spk_mem.2 ⟨by omega, by omega, hl2⟩
  obtain ⟨j, hj, e⟩ := List.getElem_of_mem hm
  exact ⟨j, hj, by rw [ow_get hj]; exact e⟩
/-- The rank of the spoke with a rank. -/
theorem rank_spoke {rs : List (Int × Int)} {n : Int} (hn : isO rs n = true) (hf : soV rs n ≤ 1000000000) : rkO rs (soV rs n) = true ∧ rkV rs (soV rs n) = n := by
  have hw : whB rs = true := by rw [isO, Bool.and_eq_true] at hn; exact hn.1
  obtain ⟨n1, n2⟩ := inB_true.1 (show inB n 0 1000000000 = true by rw [isO, Bool.and_eq_true] at hn; exact hn.2)
  have h0 := spk_pos hw
  obtain ⟨_, _, _, _, h5, h6, _⟩ := whB_parts hw
  have hq := Int.emod_nonneg n (b := ((spk rs).length : Int)) (by omega)
  have hq2 := Int.emod_lt_of_pos n (b := ((spk rs).length : Int)) (by omega)
  have hd := Int.mul_ediv_add_emod n ((spk rs).length : Int)
  obtain ⟨j, hj⟩ := Int.eq_ofNat_of_zero_le hq
  have hjl : j < (spk rs).length := by omega
  have ha := spk_at hjl
  have hv := soV_yes hn
  rw [hj, Int.toNat_natCast] at hv
  obtain ⟨S, hS⟩ : ∃ s, ivL (spk rs) j = s := ⟨_, rfl⟩
  rw [hS] at ha hv
  have hQ : 0 ≤ n / ((spk rs).length : Int) := Int.ediv_nonneg n1 (by omega)
  obtain ⟨Q, hQe⟩ : ∃ q, n / ((spk rs).length : Int) = q := ⟨_, rfl⟩
  rw [hQe] at hv hQ hd
  have hQP : 0 ≤ Q * (whP rs : Int) := Int.mul_nonneg hQ (by omega)
  have hdiv : (soV rs n - 1) / (whP rs : Int) = Q := by
    rw [hv, show Q * (whP rs : Int) + S - 1 = (S - 1) + Q * (whP rs : Int) by omega, Int.add_mul_ediv_right _ _ (by omega), Int.ediv_eq_zero_of_lt (by omega) (by omega)]
    omega
  have hr : rkR rs (soV rs n) = S := by rw [rkR, hdiv, hv]; omega
  have hl : leftF rs (soV rs n) = true := by
    rw [hv, show Q * (whP rs : Int) + S = S + (whP rs : Int) * Q by rw [Int.mul_comm]; omega, wh_per hw]
    exact ha.2.2
  have hio : isO rs (soV rs n) = true := by rw [isO, hw, Bool.true_and, inB_true]; omega
  have hro : rkO rs (soV rs n) = true := by rw [rkO, hio, hl, decide_eq_true (show 1 ≤ soV rs n by omega)]; rfl
  refine ⟨hro, ?_⟩
  rw [rkV_yes hro, hdiv]
  have he : rkT rs (soV rs n) = fun x => decide (x < ivL (spk rs) j) := by funext x; rw [rkT, hr, hS]
  rw [he, cnt_before hjl _ (Nat.le_refl _), Nat.min_eq_right (by omega)]
  rw [hj] at hd
  rw [Int.mul_comm]
  exact hd
/-- The spoke with the rank of a spoke. -/
theorem spoke_rank {rs : List (Int × Int)} {n : Int} (hn : rkO rs n = true) : isO rs (rkV rs n) = true ∧ soV rs (rkV rs n) = n := by
  have hk := hn
  rw [rkO, Bool.and_eq_true, Bool.and_eq_true, decide_eq_true_eq] at hk
  obtain ⟨⟨hio, h1⟩, hl⟩ := hk
  have hw : whB rs = true := by rw [isO, Bool.and_eq_true] at hio; exact hio.1
  obtain ⟨n1, n2⟩ := inB_true.1 (show inB n 0 1000000000 = true by rw [isO, Bool.and_eq_true] at hio; exact hio.2)
  have h0 := spk_pos hw
  have hlp := spk_len rs
  obtain ⟨_, _, _, _, h5, h6, _⟩ := whB_parts hw
  obtain ⟨j, hj, he⟩ := spk_idx hw h1 hl
  have hT : rkT rs n = fun x => decide (x < ivL (spk rs) j) := by funext x; rw [rkT, he]
  have hv := rkV_yes hn
  rw [hT, cnt_before hj _ (Nat.le_refl _), Nat.min_eq_right (by omega)] at hv
  have hQ : 0 ≤ (n - 1) / (whP rs : Int) := Int.ediv_nonneg (by omega) (by omega)
  have hd := Int.mul_ediv_add_emod (n - 1) (whP rs : Int)
  have hq := Int.emod_nonneg (n - 1) (b := (whP rs : Int)) (by omega)
  have hR : rkR rs n = n - (n - 1) / (whP rs : Int) * (whP rs : Int) := rfl
  obtain ⟨Q, hQe⟩ : ∃ q, (n - 1) / (whP rs : Int) = q := ⟨_, rfl⟩
  rw [hQe] at hv hQ hd hR
  have hle : Q * ((spk rs).length : Int) ≤ Q * (whP rs : Int) := Int.mul_le_mul_of_nonneg_left (by omega) hQ
  have hge : 0 ≤ Q * ((spk rs).length : Int) := Int.mul_nonneg hQ (by omega)
  have hcomm : Q * (whP rs : Int) = (whP rs : Int) * Q := Int.mul_comm _ _
  have hjs : (j : Int) ≤ ivL (spk rs) j - 1 := by
    have : ∀ i, i < (spk rs).length → (i : Int) + 1 ≤ ivL (spk rs) i := fun i => by
      induction i with
      | zero => intro hi; have := (spk_at hi).1; omega
      | succ i ih => intro hi; have := ih (by omega); have := ow_lt (rs := rs) (i := i) (j := i + 1) (by omega) hi; omega
    have := this j hj
    omega
  have hio2 : isO rs (rkV rs n) = true := by rw [isO, hw, Bool.true_and, inB_true]; omega
  refine ⟨hio2, ?_⟩
  rw [soV_yes hio2, hv, show Q * ((spk rs).length : Int) + (j : Int) = (j : Int) + Q * ((spk rs).length : Int) by omega, Int.add_mul_ediv_right _ _ (by omega), Int.add_mul_emod_self_right, Int.ediv_eq_zero_of_lt (by omega) (by omega), Int.emod_eq_of_lt (by omega) (by omega), Int.toNat_natCast, he, hR, Int.zero_add]
  omega
/-- The nearest left number. -/
theorem near_is {rs : List (Int × Int)} {n : Int} : ∀ (f d : Nat), (∃ e, e < f ∧ (leftF rs (n - ((d + e : Nat) : Int)) = true ∨ leftF rs (n + ((d + e : Nat) : Int)) = true)) → ∃ e, e < f ∧ (∀ i, i < e → leftF rs (n - ((d + i : Nat) : Int)) = false ∧ leftF rs (n + ((d + i : Nat) : Int)) = false) ∧
      ((leftF rs (n - ((d + e : Nat) : Int)) = true ∧ nearGo rs n f d = n - ((d + e : Nat) : Int)) ∨ (leftF rs (n - ((d + e : Nat) : Int)) = false ∧ leftF rs (n + ((d + e : Nat) : Int)) = true ∧ nearGo rs n f d = n + ((d + e : Nat) : Int)))
  | 0, d, h => by obtain ⟨e, he, _⟩ := h; omega
  | f + 1, d, h => by
    cases h1 : leftF rs (n - (d : Int)) with
    | true => exact ⟨0, by omega, fun i hi => by omega, .inl ⟨h1, by rw [nearGo, if_pos h1]; rfl⟩⟩
    | false =>
      cases h2 : leftF rs (n + (d : Int)) with
      | true => exact ⟨0, by omega, fun i hi => by omega, .inr ⟨h1, h2, by rw [nearGo, if_neg (by rw [h1]; exact Bool.false_ne_true), if_pos h2]; rfl⟩⟩
      | false =>
        obtain ⟨e, he, ho⟩ := h
        have he0 : e ≠ 0 := fun h0 => by
          subst h0
          rcases ho with ho | ho
          · rw [Nat.add_zero, h1] at ho; cases ho
          · rw [Nat.add_zero, h2] at ho; cases ho
        obtain ⟨e1, rfl⟩ : ∃ e1, e = e1 + 1 := ⟨e - 1, by omega⟩
        rw [show d + (e1 + 1) = d + 1 + e1 by omega] at ho
        obtain ⟨e2, g1, g2, g3⟩ := near_is f (d + 1) ⟨e1, by omega, ho⟩
        have hg : nearGo rs n (f + 1) d = nearGo rs n f (d + 1) := by rw [nearGo, if_neg (by rw [h1]; exact Bool.false_ne_true), if_neg (by rw [h2]; exact Bool.false_ne_true)]
        rw [show d + 1 + e2 = d + (e2 + 1) by omega] at g3
        refine ⟨e2 + 1, by omega, fun i hi => ?_, by rw [hg]; exact g3⟩
        cases i with
        | zero => exact ⟨h1, h2⟩
        | succ i => have := g2 i (by omega); rw [show d + 1 + i = d + (i + 1) by omega] at this; exact this
theorem sn_is {rs : List (Int × Int)} {n : Int} (hn : isO rs n = true) : ∃ D : Nat, D ≤ 5000 ∧ (isW rs n = decide (D = 0)) ∧
    ((leftF rs (n - (D : Int)) = true ∧ snV rs n = n - (D : Int)) ∨ (0 < D ∧ leftF rs (n - (D : Int)) = false ∧ leftF rs (n + (D : Int)) = true ∧ snV rs n = n + (D : Int))) := by
  have hw : whB rs = true := by rw [isO, Bool.and_eq_true] at hn; exact hn.1
  obtain ⟨_, _, _, _, h5, h6, _⟩ := whB_parts hw
  obtain ⟨d, hd, hl⟩ := wh_next hw n
  obtain ⟨e, g1, g2, g3⟩ := near_is (rs := rs) (n := n) (whP rs) 0 ⟨d, hd, .inr (by rw [Nat.zero_add]; exact hl)⟩
  have hv : snV rs n = nearGo rs n (whP rs) 0 := by rw [snV_yes hn, nearD, Nat.sub_zero]
  rw [← hv, Nat.zero_add] at g3
  have hz : isW rs n = decide (e = 0) := by
    rw [isW_yes hn]
    by_cases he : e = 0
    · subst he
      rw [decide_eq_true rfl]
      rcases g3 with ⟨a, _⟩ | ⟨_, b, _⟩
      · have : n - ((0 : Nat) : Int) = n := by omega
        rw [this] at a; exact a
      · have : n + ((0 : Nat) : Int) = n := by omega
        rw [this] at b; exact b
    · rw [decide_eq_false he]
      have := (g2 0 (by omega)).2
      rw [Nat.add_zero] at this
      have e0 : n + ((0 : Nat) : Int) = n := by omega
      rw [e0] at this
      exact this
  refine ⟨e, by omega, hz, ?_⟩
  rcases g3 with g | ⟨a, b, c⟩
  · exact .inl g
  · refine .inr ⟨?_, a, b, c⟩
    rcases Nat.eq_zero_or_pos e with h0 | h0
    · subst h0
      have e1 : n - ((0 : Nat) : Int) = n := by omega
      have e2 : n + ((0 : Nat) : Int) = n := by omega
      rw [e1] at a
      rw [e2, a] at b
      cases b
    · exact h0

end Go.Proofs.Ytaapfapejekkfaa

namespace Go.Proofs.Ytaapfapejekkfaa
open Go.RowKit Go.ChangeShapes Go.WideShapes Go.ChangeAt Go.Deep
set_option maxRecDepth 100000
set_option linter.unusedVariables false
set_option linter.unusedSimpArgs false

section
variable {H : Type} {enc : TypeId × Value → H} {W : World} {base b0 : Nat} {r : Reach} {spare : Nat → Bool} {held : Bool}
/-- An argument of type []int reads as numbers. -/
theorem open_intP {v : Value} {d : DataW H} {p : List MemPlace} (hval : Value.okWide Try.prog W r b0 48 v) (h : DataW.Trod enc Try.prog W base spare held 48 v d p) :
    ∃ A n c xs, v = .slice A n c ∧ n = xs.length ∧ n ≤ 9223372036854775807 ∧ Il W A xs := by
  obtain ⟨a0, len, cap, rfl⟩ := okWide_slice Try.underlying48 hval
  obtain ⟨fuel, hf⟩ := h
  rcases Go.ChangeShapes.open_ints Try.underlying48 Try.underlying3 (by kernel_rfl) hf with ⟨hcs, _⟩ | ⟨a, l, c, zs, hcs, _, hl, hm, hmm, _, hx, _⟩
  · simp [Value.cells] at hcs
    obtain ⟨rfl, rfl, rfl⟩ := hcs
    exact ⟨none, 0, 0, [], rfl, rfl, by omega, fun h => by simp at h⟩
  · simp [Value.cells] at hcs
    obtain ⟨rfl, rfl, rfl⟩ := hcs
    have hlm : len ≤ zs.length := by rw [hmm]; split <;> omega
    have hm' : len ≤ 9223372036854775807 := by unfold maxLen at hm; omega
    have htl : (zs.take len).length = len := by rw [List.length_take]; omega
    refine ⟨some a, len, cap, zs.take len, rfl, htl.symm, hm', fun hp => ?_⟩
    have hlen : 0 < len := by omega
    have c0 := hx 0 (by omega)
    obtain ⟨b, off, rfl⟩ := addr_plain c0
    refine ⟨b, off, rfl, World.block_lt_of_cell? W _ (by simpa [add_plain] using c0), fun k hk => ?_⟩
    have hk' : k < len := by omega
    have g0 := hx k (by omega)
    rw [add_plain] at g0
    rw [g0, ivL]
    simp [List.getD_eq_getElem?_getD, List.getElem?_take, hk']
/-- An argument of type []impl.Rule reads as rules. -/
theorem open_rulesP {v : Value} {d : DataW H} {p : List MemPlace} (hval : Value.okWide Try.prog W r b0 22 v) (h : DataW.Trod enc Try.prog W base spare held 22 v d p) :
    ∃ A n c rs, v = .slice A n c ∧ n = rs.length ∧ n ≤ 9223372036854775807 ∧ Rl W A rs := by
  obtain ⟨a0, len, cap, rfl⟩ := okWide_slice Try.underlying22 hval
  obtain ⟨fuel, hf⟩ := h
  rcases open_slice_pairs Try.underlying22 Try.underlying69 (by kernel_rfl) rfl rfl (by kernel_rfl) (by kernel_rfl) hf with ⟨hcs, _⟩ | ⟨a, l, c, m, n, V0, V1, D0, D1, P0, P1, hcs, _, hl, hm, hmm, _, hx⟩
  · simp [Value.cells] at hcs
    obtain ⟨rfl, rfl, rfl⟩ := hcs
    exact ⟨none, 0, 0, [], rfl, rfl, by omega, fun h => by simp at h⟩
  · simp [Value.cells] at hcs
    obtain ⟨rfl, rfl, rfl⟩ := hcs
    have hlm : len ≤ m := by rw [hmm]; split <;> omega
    have hm' : len ≤ 9223372036854775807 := by unfold maxLen at hm; omega
    have key : ∀ i, i < m → ∃ e q : Int, V0 i = .int .i64 e ∧ V1 i = .int .i64 q := by
      intro i hi
      obtain ⟨_, _, t0, t1⟩ := hx i hi
      obtain ⟨e, e0, _, _⟩ := DataW.trod_int Try.underlying3 t0
      obtain ⟨q, e1, _, _⟩ := DataW.trod_int Try.underlying3 t1
      exact ⟨e, q, by simpa using e0, by simpa using e1⟩
    let f : Nat → Int × Int := fun i => ((match V0 i with | .int _ q => q | _ => 0), (match V1 i with | .int _ q => q | _ => 0))
    refine ⟨some a, len, cap, (List.range len).map f, rfl, by simp, hm', fun hp => ?_⟩
    have hlen : 0 < len := by simpa using hp
    obtain ⟨c0, _, _, _⟩ := hx 0 (by omega)
    obtain ⟨b, off, rfl⟩ := addr_plain (by simpa using c0)
    refine ⟨b, off, rfl, World.block_lt_of_cell? W _ (by simpa [add_plain] using c0), fun k hk => ?_⟩
    have hk' : k < len := by simpa using hk
    obtain ⟨e, q, h0, h1⟩ := key k (by omega)
    obtain ⟨g0, g1, _, _⟩ := hx k (by omega)
    rw [add_plain] at g0 g1
    have hf1 : evL ((List.range len).map f) k = e := by simp [evL, hk', f, h0]
    have hf2 : reL ((List.range len).map f) k = q := by simp [reL, hk', f, h1]
    rw [hf1, hf2]
    exact ⟨by rw [g0, h0], by rw [← Nat.add_assoc] at g1; rw [g1, h1]⟩
end

end Go.Proofs.Ytaapfapejekkfaa
