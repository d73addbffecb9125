import Derived.Test.YtaapfapejekkfaaN0
import Derived.Test.YtaapfapejekkfaaP2
import Derived.Test.YtaapfapejekkfaaL0
import Derived.StillTailTactics
import Derived.Test.YtaapfapejekkfaaJX
import Derived.Test.YtaapfapejekkfaaYC
import Derived.Test.YtaapfapejekkfaaYD
import Derived.Test.YtaapfapejekkfaaE1
namespace Go.Proofs.Ytaapfapejekkfaa
open Go.RowKit
set_option linter.unusedVariables false
set_option linter.unusedSimpArgs false

theorem hasF_flF {p : Nat → Bool} {a k n : Nat} (h1 : a ≤ n) (h2 : n < a + k) : hasF (flF p a k) (n : Int) = p n := by
  rw [Bool.eq_iff_iff, hasF_mem, flF, List.mem_map]
  constructor
  · rintro ⟨i, hi, e⟩
    have := (List.mem_filter.1 hi).2
    rwa [show a + i = n by omega] at this
  · intro hp
    exact ⟨n - a, List.mem_filter.2 ⟨List.mem_range.2 (by omega), by rw [show a + (n - a) = n by omega]; exact hp⟩, by omega⟩

set_option maxHeartbeats 800000 in
theorem gSame_c (A B : Option Addr) (n m c d : Nat) (xs : List Int) (w : World) (hA : Il w A xs) (hB : Il w B xs) (hn : n = xs.length) (hm : m = xs.length) (hn1 : n ≤ 1048576) :
    Calls Try.prog 59 #[.slice A n c, .slice B m d] w fun en w' => en = .returned (.bool true) ∧ Below w.heap.size w w' := by
  have hnm : m = n := by rw [hn, hm]
  subst hnm
  have Hn := Lib.hid hn
  clear hn hm
  go_enter Try.func59, Try.ntmps59
  go_wp2
  go_loopw [13] (fun i wr => ∃ k : Nat, k ≤ m ∧ i = .int .i64 k ∧ Below w.heap.size w wr) (fun i _ => m - (intOf i).toNat)
  case atStart => exact ⟨0, Nat.zero_le _, rfl, Below.refl _ _⟩
  case round =>
    obtain ⟨k, hk, rfl, hbel⟩ := hrel
    by_cases hlt : k < m
    · have hlt1 : k < xs.length := by have := Hn.out; omega
      obtain ⟨b, off, rfl, hb, hr⟩ := hA (by omega)
      obtain ⟨b2, off2, rfl, hb2, hr2⟩ := hB (by omega)
      have hc0 := (hbel.cell (p := ⟨b, off + k, none⟩) hb).trans (hr k hlt1)
      have hd0 := (hbel.cell (p := ⟨b2, off2 + k, none⟩) hb2).trans (hr2 k hlt1)
      have hi1 : (k : Int) < (m : Int) := by omega
      have hne : (ivL xs k != ivL xs k) = false := by simp
      go_wp2_with fail
      go_quiet (fail)
      go_wp2
      go_roundw
      case rel => exact ⟨k + 1, by omega, by go_num, below_drewN hbel _⟩
      case measure => simp [intOf]; omega
    · go_wp2
      go_ret
      exact ⟨rfl, hbel⟩
set_option maxRecDepth 100000 in
set_option maxHeartbeats 400000 in
theorem gHas_c (w : World) (A : Option Addr) (m c : Nat) (xs : List Int) (hA : Il w A xs) (hm : m = xs.length) (hn : m ≤ 1048576) (s : Int) :
    Calls Try.prog 101 #[.slice A m c, .int .i64 s] w fun en w' => en = .returned (.bool (hasF xs s)) ∧ w = w' := by
  have Hm := Lib.hid hm
  clear hm
  go_enter Try.func101, Try.ntmps101
  go_wp2
  go_loop [9] (fun i => ∃ k : Nat, k ≤ m ∧ i = .int .i64 k ∧ (∀ j, j < k → ivL xs j ≠ s)) (fun i => m - (intOf i).toNat)
  case atStart => exact ⟨0, Nat.zero_le _, rfl, by omega⟩
  case round =>
    obtain ⟨k, hk, rfl, hall⟩ := hrel
    have Hall := Lib.hid hall
    clear hall
    by_cases hlt : k < m
    · have hlt1 : k < xs.length := by have := Hm.out; omega
      obtain ⟨b, off, rfl, hb, hr⟩ := hA (by omega)
      have hc0 := hr k hlt1
      clear hlt1
      obtain ⟨x, hx⟩ : ∃ x, ivL xs k = x := ⟨_, rfl⟩
      rw [hx] at hc0
      by_cases hs : x = s
      · have Hy := Lib.hid (hasF_yes (s := s) (by have := Hm.out; omega) (hx.trans hs))
        have hsb : (x == s) = true := beq_iff_eq.2 hs
        clear hs hx
        go_wp2
        go_ret
        exact ⟨by rw [Hy.out]; rfl, rfl⟩
      · have Hall2 := Lib.hid (fun j (hj : j < k + 1) => show ivL xs j ≠ s by
          rcases Nat.lt_succ_iff_lt_or_eq.1 hj with h | h
          · exact Hall.out j h
          · rw [h, hx]; exact hs)
        have hsb : (x == s) = false := beq_eq_false_iff_ne.2 hs
        clear hs hx
        go_wp2
        go_round
        case rel => exact ⟨k + 1, by omega, by go_num, Hall2.out⟩
        case measure => simp [intOf]; omega
    · have Hy := Lib.hid (hasF_no (xs := xs) (s := s) fun j hj => Hall.out j (by have := Hm.out; omega))
      go_wp2
      go_ret
      exact ⟨by rw [Hy.out]; rfl, rfl⟩

set_option maxHeartbeats 800000 in
theorem tSame_c (A B : Option Addr) (n m c d : Nat) (xs : List Int) (w : World) (hA : Il w A xs) (hB : Il w B xs) (hn : n = xs.length) (hm : m = xs.length) (hn1 : n ≤ 1048576) :
    Calls Try.prog 68 #[.slice A n c, .slice B m d] w fun en w' => en = .returned (.bool true) ∧ Below w.heap.size w w' := by
  have hnm : m = n := by rw [hn, hm]
  subst hnm
  have Hn := Lib.hid hn
  clear hn hm
  go_enter Try.func68, Try.ntmps68
  go_wp2
  go_loopw [13] (fun i wr => ∃ k : Nat, k ≤ m ∧ i = .int .i64 k ∧ Below w.heap.size w wr) (fun i _ => m - (intOf i).toNat)
  case atStart => exact ⟨0, Nat.zero_le _, rfl, Below.refl _ _⟩
  case round =>
    obtain ⟨k, hk, rfl, hbel⟩ := hrel
    by_cases hlt : k < m
    · have hlt1 : k < xs.length := by have := Hn.out; omega
      obtain ⟨b, off, rfl, hb, hr⟩ := hA (by omega)
      obtain ⟨b2, off2, rfl, hb2, hr2⟩ := hB (by omega)
      have hc0 := (hbel.cell (p := ⟨b, off + k, none⟩) hb).trans (hr k hlt1)
      have hd0 := (hbel.cell (p := ⟨b2, off2 + k, none⟩) hb2).trans (hr2 k hlt1)
      have hi1 : (k : Int) < (m : Int) := by omega
      have hne : (ivL xs k != ivL xs k) = false := by simp
      go_wp2_with fail
      go_quiet (fail)
      go_wp2
      go_roundw
      case rel => exact ⟨k + 1, by omega, by go_num, below_drewN hbel _⟩
      case measure => simp [intOf]; omega
    · go_wp2
      go_ret
      exact ⟨rfl, hbel⟩
set_option maxRecDepth 100000 in
set_option maxHeartbeats 400000 in
theorem tHas_c (w : World) (A : Option Addr) (m c : Nat) (xs : List Int) (hA : Il w A xs) (hm : m = xs.length) (hn : m ≤ 1048576) (s : Int) :
    Calls Try.prog 74 #[.slice A m c, .int .i64 s] w fun en w' => en = .returned (.bool (hasF xs s)) ∧ w = w' := by
  have Hm := Lib.hid hm
  clear hm
  go_enter Try.func74, Try.ntmps74
  go_wp2
  go_loop [9] (fun i => ∃ k : Nat, k ≤ m ∧ i = .int .i64 k ∧ (∀ j, j < k → ivL xs j ≠ s)) (fun i => m - (intOf i).toNat)
  case atStart => exact ⟨0, Nat.zero_le _, rfl, by omega⟩
  case round =>
    obtain ⟨k, hk, rfl, hall⟩ := hrel
    have Hall := Lib.hid hall
    clear hall
    by_cases hlt : k < m
    · have hlt1 : k < xs.length := by have := Hm.out; omega
      obtain ⟨b, off, rfl, hb, hr⟩ := hA (by omega)
      have hc0 := hr k hlt1
      clear hlt1
      obtain ⟨x, hx⟩ : ∃ x, ivL xs k = x := ⟨_, rfl⟩
      rw [hx] at hc0
      by_cases hs : x = s
      · have Hy := Lib.hid (hasF_yes (s := s) (by have := Hm.out; omega) (hx.trans hs))
        have hsb : (x == s) = true := beq_iff_eq.2 hs
        clear hs hx
        go_wp2
        go_ret
        exact ⟨by rw [Hy.out]; rfl, rfl⟩
      · have Hall2 := Lib.hid (fun j (hj : j < k + 1) => show ivL xs j ≠ s by
          rcases Nat.lt_succ_iff_lt_or_eq.1 hj with h | h
          · exact Hall.out j h
          · rw [h, hx]; exact hs)
        have hsb : (x == s) = false := beq_eq_false_iff_ne.2 hs
        clear hs hx
        go_wp2
        go_round
        case rel => exact ⟨k + 1, by omega, by go_num, Hall2.out⟩
        case measure => simp [intOf]; omega
    · have Hy := Lib.hid (hasF_no (xs := xs) (s := s) fun j hj => Hall.out j (by have := Hm.out; omega))
      go_wp2
      go_ret
      exact ⟨by rw [Hy.out]; rfl, rfl⟩

end Go.Proofs.Ytaapfapejekkfaa

namespace Go.Proofs.Ytaapfapejekkfaa
open Go.RowKit
set_option maxRecDepth 100000
set_option linter.unusedVariables false
set_option linter.unusedSimpArgs false

/-- The sum of the first k numbers. -/
def sumZ (xs : List Int) : Nat → Int
  | 0 => 0
  | k + 1 => sumZ xs k + ivL xs k
theorem sumZ_bound {xs : List Int} (h : ∀ k, k < xs.length → 0 ≤ ivL xs k ∧ ivL xs k ≤ 1000000000) : ∀ k, k ≤ xs.length → 0 ≤ sumZ xs k ∧ sumZ xs k ≤ 1000000000 * (k : Int)
  | 0, _ => ⟨Int.le_refl _, by rw [sumZ]; omega⟩
  | k + 1, hk => by
    have a := sumZ_bound h k (by omega)
    have b := h k (by omega)
    rw [sumZ]
    omega

set_option maxHeartbeats 800000 in
theorem gSame_q (A B : Option Addr) (n m c d : Nat) (xs : List Int) (w : World) (hA : Il w A xs) (hB : Il w B xs) (hn : n = xs.length) (hm : m = xs.length) (hn1 : n ≤ 1048576) :
    Calls Try.prog 59 #[.slice A n c, .slice B m d] w fun en w' => en = .returned (.bool true) ∧ ∃ k, w' = w.drewN k := by
  have hnm : m = n := by rw [hn, hm]
  subst hnm
  have Hn := Lib.hid hn
  clear hn hm
  go_enter Try.func59, Try.ntmps59
  go_wp2
  go_loopw [13] (fun i wr => ∃ k nd : Nat, k ≤ m ∧ i = .int .i64 k ∧ wr = w.drewN nd) (fun i _ => m - (intOf i).toNat)
  case atStart => exact ⟨0, 0, Nat.zero_le _, rfl, rfl⟩
  case round =>
    obtain ⟨k, nd, hk, rfl, rfl⟩ := hrel
    by_cases hlt : k < m
    · have hlt1 : k < xs.length := by have := Hn.out; omega
      obtain ⟨b, off, rfl, hb, hr⟩ := hA (by omega)
      obtain ⟨b2, off2, rfl, hb2, hr2⟩ := hB (by omega)
      have hc0 := hr k hlt1
      have hd0 := hr2 k hlt1
      have hi1 : (k : Int) < (m : Int) := by omega
      have hne : (ivL xs k != ivL xs k) = false := by simp
      go_wp2_with fail
      go_quiet (fail)
      go_wp2
      go_roundw
      case rel => exact ⟨k + 1, _, by omega, by go_num, rfl⟩
      case measure => simp [intOf]; omega
    · go_wp2
      go_ret
      exact ⟨rfl, nd, rfl⟩
set_option maxHeartbeats 800000 in
theorem gSum_c (w : World) (A : Option Addr) (m c : Nat) (xs : List Int) (hA : Il w A xs) (hm : m = xs.length) (hn : m ≤ 1048576) (hb : ∀ k, k < xs.length → 0 ≤ ivL xs k ∧ ivL xs k ≤ 1000000000) :
    Calls Try.prog 62 #[.slice A m c] w fun en w' => en = .returned (.int .i64 (sumZ xs m)) ∧ Below w.heap.size w w' := by
  have Hm := Lib.hid hm
  have Hb := Lib.hid (sumZ_bound hb)
  have Hb1 := Lib.hid hb
  clear hm hb
  go_enter Try.func62, Try.ntmps62
  go_wp2
  go_loopw [3, 8] (fun s i wr => ∃ k : Nat, k ≤ m ∧ i = .int .i64 k ∧ s = .int .i64 (sumZ xs k) ∧ Below w.heap.size w wr) (fun s i _ => m - (intOf i).toNat)
  case atStart => exact ⟨0, Nat.zero_le _, rfl, rfl, Below.refl _ _⟩
  case round =>
    obtain ⟨k, hk, rfl, rfl, hbel⟩ := hrel
    by_cases hlt : k < m
    · have hlt1 : k < xs.length := by have := Hm.out; omega
      obtain ⟨b, off, rfl, hb, hr⟩ := hA (by omega)
      have hc0 := (hbel.cell (p := ⟨b, off + k, none⟩) hb).trans (hr k hlt1)
      have hi1 : (k : Int) < (m : Int) := by omega
      have hz := Hb.out k (by omega)
      have hz1 := Hb1.out k hlt1
      obtain ⟨Z, hZ⟩ : ∃ z, sumZ xs k = z := ⟨_, rfl⟩
      obtain ⟨X, hX⟩ : ∃ x, ivL xs k = x := ⟨_, rfl⟩
      have Hk := Lib.hid (show sumZ xs (k + 1) = Z + X by rw [sumZ, hZ, hX])
      rw [hZ] at hz ⊢
      rw [hX] at hz1 hc0
      clear hZ hX
      have hwr : IntKind.i64.wrap (Z + X) = Z + X := IntWalk.i64_in _ (by omega)
      go_wp2
      go_roundw
      case rel => exact ⟨k + 1, by omega, by go_num, by rw [Hk.out], by first | exact hbel | exact hbel.drew⟩
      case measure => simp [intOf]; omega
    · obtain rfl : k = m := by omega
      go_wp2
      go_ret
      exact ⟨rfl, hbel⟩

set_option maxHeartbeats 800000 in
theorem tSame_q (A B : Option Addr) (n m c d : Nat) (xs : List Int) (w : World) (hA : Il w A xs) (hB : Il w B xs) (hn : n = xs.length) (hm : m = xs.length) (hn1 : n ≤ 1048576) :
    Calls Try.prog 68 #[.slice A n c, .slice B m d] w fun en w' => en = .returned (.bool true) ∧ ∃ k, w' = w.drewN k := by
  have hnm : m = n := by rw [hn, hm]
  subst hnm
  have Hn := Lib.hid hn
  clear hn hm
  go_enter Try.func68, Try.ntmps68
  go_wp2
  go_loopw [13] (fun i wr => ∃ k nd : Nat, k ≤ m ∧ i = .int .i64 k ∧ wr = w.drewN nd) (fun i _ => m - (intOf i).toNat)
  case atStart => exact ⟨0, 0, Nat.zero_le _, rfl, rfl⟩
  case round =>
    obtain ⟨k, nd, hk, rfl, rfl⟩ := hrel
    by_cases hlt : k < m
    · have hlt1 : k < xs.length := by have := Hn.out; omega
      obtain ⟨b, off, rfl, hb, hr⟩ := hA (by omega)
      obtain ⟨b2, off2, rfl, hb2, hr2⟩ := hB (by omega)
      have hc0 := hr k hlt1
      have hd0 := hr2 k hlt1
      have hi1 : (k : Int) < (m : Int) := by omega
      have hne : (ivL xs k != ivL xs k) = false := by simp
      go_wp2_with fail
      go_quiet (fail)
      go_wp2
      go_roundw
      case rel => exact ⟨k + 1, _, by omega, by go_num, rfl⟩
      case measure => simp [intOf]; omega
    · go_wp2
      go_ret
      exact ⟨rfl, nd, rfl⟩

set_option maxHeartbeats 800000 in
theorem tRises_c (w : World) (A : Option Addr) (m c : Nat) (xs : List Int) (lo hi : Int) (hA : Il w A xs) (hm : m = xs.length) (hn : m ≤ 1048576) (hb : ∀ k, k < xs.length → lo ≤ ivL xs k ∧ ivL xs k ≤ hi ∧ ∀ j, k = j + 1 → ivL xs j < ivL xs k) :
    Calls Try.prog 71 #[.slice A m c, .int .i64 lo, .int .i64 hi] w fun en w' => en = .returned (.bool true) ∧ Below w.heap.size w w' := by
  have Hm := Lib.hid hm
  have Hb := Lib.hid hb
  clear hm hb
  go_enter Try.func71, Try.ntmps71
  go_wp2
  go_loopw [11] (fun i wr => ∃ k : Nat, k ≤ m ∧ i = .int .i64 k ∧ Below w.heap.size w wr) (fun i _ => m - (intOf i).toNat)
  case atStart => exact ⟨0, Nat.zero_le _, rfl, Below.refl _ _⟩
  case round =>
    obtain ⟨k, hk, rfl, hbel⟩ := hrel
    by_cases hlt : k < m
    · have hlt1 : k < xs.length := by have := Hm.out; omega
      obtain ⟨b, off, rfl, hb, hr⟩ := hA (by omega)
      have hc0 := (hbel.cell (p := ⟨b, off + k, none⟩) hb).trans (hr k hlt1)
      have hi1 : (k : Int) < (m : Int) := by omega
      obtain ⟨g1, g2, g3⟩ := Hb.out k hlt1
      cases k with
      | zero =>
        obtain ⟨X, hX⟩ : ∃ x, ivL xs 0 = x := ⟨_, rfl⟩
        rw [hX] at hc0 g1 g2
        clear g3 hX
        rw [Nat.add_zero] at hc0
        have t1 : decide (X < lo) = false := decide_eq_false (by omega)
        have t2 : decide (hi < X) = false := decide_eq_false (by omega)
        go_wp2
        go_roundw
        case rel => exact ⟨1, by omega, rfl, by first | exact hbel | exact hbel.drew⟩
        case measure => simp [intOf]; omega
      | succ q =>
        have hcq := (hbel.cell (p := ⟨b, off + q, none⟩) hb).trans (hr q (by omega))
        have g4 := g3 q rfl
        clear g3
        obtain ⟨X, hX⟩ : ∃ x, ivL xs (q + 1) = x := ⟨_, rfl⟩
        obtain ⟨Y, hY⟩ : ∃ x, ivL xs q = x := ⟨_, rfl⟩
        rw [hX] at hc0 g1 g2 g4
        rw [hY] at hcq g4
        clear hX hY
        have t1 : decide (X < lo) = false := decide_eq_false (by omega)
        have t2 : decide (hi < X) = false := decide_eq_false (by omega)
        have t3 : decide (X ≤ Y) = false := decide_eq_false (by omega)
        have t4 : ((q + 1 : Nat) : Int) - 1 = (q : Int) := by omega
        have t5 : (0 : Int) < ((q + 1 : Nat) : Int) := by omega
        have t6 : decide ((0 : Int) < ((q + 1 : Nat) : Int)) = true := decide_eq_true t5
        have t7 : (0 : Int) ≤ (q : Int) := by omega
        have t8 : (q : Int) < (m : Int) := by omega
        go_wp2
        go_roundw
        case rel => exact ⟨q + 1 + 1, by omega, by go_num, by first | exact hbel | exact hbel.drew⟩
        case measure => simp [intOf]; omega
    · go_wp2
      go_ret
      exact ⟨rfl, hbel⟩
theorem eq_ruleT (a b : Int) (w : World) : (Op.equalIn 10000 69 (.agg #[.int .i64 a, .int .i64 b]) (.agg #[.int .i64 a, .int .i64 b])).run Try.prog w = .ok true w := by
  have hu := Try.underlying69
  go_simp
set_option maxHeartbeats 800000 in
theorem tRules_c (A B : Option Addr) (n m c d : Nat) (rs : List (Int × Int)) (w : World) (hA : Rl w A rs) (hB : Rl w B rs) (hn : n = rs.length) (hm : m = rs.length) (hn1 : n ≤ 1048576) :
    Calls Try.prog 158 #[.slice A n c, .slice B m d] w fun en w' => en = .returned (.bool true) ∧ Below w.heap.size w w' := by
  have hnm : m = n := by rw [hn, hm]
  subst hnm
  have Hn := Lib.hid hn
  clear hn hm
  go_enter Try.func158, Try.ntmps158
  go_wp2
  go_loopw [13] (fun i wr => ∃ k : Nat, k ≤ m ∧ i = .int .i64 k ∧ Below w.heap.size w wr) (fun i _ => m - (intOf i).toNat)
  case atStart => exact ⟨0, Nat.zero_le _, rfl, Below.refl _ _⟩
  case round =>
    obtain ⟨k, hk, rfl, hbel⟩ := hrel
    by_cases hlt : k < m
    · have hlt1 : k < rs.length := by have := Hn.out; omega
      obtain ⟨b, off, rfl, hb, hr⟩ := hA (by omega)
      obtain ⟨b2, off2, rfl, hb2, hr2⟩ := hB (by omega)
      have hc0 := (hbel.cell (p := ⟨b, off + k * 2, none⟩) hb).trans (hr k hlt1).1
      have hc1 := (hbel.cell (p := ⟨b, off + k * 2 + 1, none⟩) hb).trans (hr k hlt1).2
      have hd0 := (hbel.cell (p := ⟨b2, off2 + k * 2, none⟩) hb2).trans (hr2 k hlt1).1
      have hd1 := (hbel.cell (p := ⟨b2, off2 + k * 2 + 1, none⟩) hb2).trans (hr2 k hlt1).2
      have hi1 : (k : Int) < (m : Int) := by omega
      have heq := eq_ruleT (evL rs k) (reL rs k)
      go_wp2_with fail
      go_still_tail 8, (by kernel_rfl)
      go_wp2
      go_roundw
      case rel => exact ⟨k + 1, by omega, by go_num, hbel.drew⟩
      case measure => simp [intOf]; omega
    · go_wp2
      go_ret
      exact ⟨rfl, hbel⟩

end Go.Proofs.Ytaapfapejekkfaa

namespace Go.Proofs.Ytaapfapejekkfaa
open Go.RowKit
set_option maxRecDepth 100000
set_option linter.unusedVariables false
set_option linter.unusedSimpArgs false

/-! What FnTablesMultiplied asks of tables: products over divisors as sums over pairs. -/
def sm : Nat → (Nat → Int) → Int
  | 0, _ => 0
  | k + 1, f => sm k f + f (k + 1)
theorem sm_congr {f g : Nat → Int} : ∀ {N}, (∀ i, 1 ≤ i → i ≤ N → f i = g i) → sm N f = sm N g
  | 0, _ => rfl
  | N + 1, h => by rw [sm, sm, sm_congr fun i h1 h2 => h i h1 (by omega), h (N + 1) (by omega) (by omega)]
theorem sm_none {f : Nat → Int} : ∀ {N}, (∀ i, 1 ≤ i → i ≤ N → f i = 0) → sm N f = 0
  | 0, _ => rfl
  | N + 1, h => by rw [sm, sm_none fun i h1 h2 => h i h1 (by omega), h (N + 1) (by omega) (by omega)]; rfl
theorem sm_add (f g : Nat → Int) : ∀ N, sm N (fun i => f i + g i) = sm N f + sm N g
  | 0 => rfl
  | N + 1 => by rw [sm, sm, sm, sm_add f g N]; omega
theorem sm_mul (c : Int) (f : Nat → Int) : ∀ N, sm N (fun i => c * f i) = c * sm N f
  | 0 => by rw [sm, sm, Int.mul_zero]
  | N + 1 => by rw [sm, sm, sm_mul c f N, Int.mul_add]
theorem sm_swap (M : Nat) (F : Nat → Nat → Int) : ∀ N, sm M (fun i => sm N (fun j => F i j)) = sm N (fun j => sm M (fun i => F i j))
  | 0 => sm_none fun _ _ _ => rfl
  | N + 1 => by
    rw [sm, ← sm_swap M F N, ← sm_add]
    rfl
theorem sm_one {f : Nat → Int} {k : Nat} (h1 : 1 ≤ k) : ∀ {N}, k ≤ N → (∀ i, 1 ≤ i → i ≤ N → i ≠ k → f i = 0) → sm N f = f k
  | 0, h2, _ => by omega
  | N + 1, h2, h => by
    rw [sm]
    by_cases hk : k = N + 1
    · subst hk
      rw [sm_none fun i a b => h i a (by omega) (by omega), Int.zero_add]
    · rw [sm_one h1 (by omega) fun i a b c => h i a (by omega) c, h (N + 1) (by omega) (by omega) (by omega), Int.add_zero]
theorem sm_long {f : Nat → Int} {N : Nat} : ∀ {M}, N ≤ M → (∀ i, N < i → f i = 0) → sm M f = sm N f
  | 0, h, _ => by rw [show N = 0 by omega]
  | M + 1, h, h0 => by
    by_cases hk : N = M + 1
    · rw [hk]
    · rw [sm, sm_long (by omega) h0, h0 (M + 1) (by omega), Int.add_zero]
/-- A table read at 1, 2, .. . -/
def fa (a : List Int) (d : Nat) : Int := ivL a (d - 1)
/-- The product over divisors. -/
def cv (N : Nat) (f g : Nat → Int) (n : Nat) : Int := sm N fun d => sm N fun e => if d * e = n then f d * g e else 0
theorem cv_row {N n d : Nat} (f g : Nat → Int) (hn : 1 ≤ n) (hN : n ≤ N) (hd : 1 ≤ d) : sm N (fun e => if d * e = n then f d * g e else 0) = if n % d = 0 then f d * g (n / d) else 0 := by
  by_cases h : n % d = 0
  · have he : d * (n / d) = n := Nat.mul_div_cancel' (Nat.dvd_of_mod_eq_zero h)
    have h1 : 1 ≤ n / d := by
      rcases Nat.eq_zero_or_pos (n / d) with h0 | h0
      · rw [h0] at he; omega
      · exact h0
    have h2 : n / d ≤ N := Nat.le_trans (Nat.div_le_self n d) hN
    rw [sm_one h1 h2 fun i _ _ hi => if_neg fun hh => hi (by rw [← hh, Nat.mul_div_cancel_left _ (by omega)])]
    rw [if_pos he, if_pos h]
  · rw [if_neg h]
    exact sm_none fun i _ _ => if_neg fun hh => h (by rw [← hh]; exact Nat.mul_mod_right d i)
theorem ovS_sm (a b : List Int) (n : Nat) : ∀ k, ovS a b n k = sm k (fun d => tvF a b n d)
  | 0 => rfl
  | k + 1 => by rw [ovS, sm, ovS_sm a b n k]
theorem ov_cv {a b : List Int} {n N : Nat} (hn : 1 ≤ n) (hN : n ≤ N) : ovF a b n = cv N (fa a) (fa b) n := by
  rw [← ovS_all a b hn hN, ovS_sm, cv]
  refine sm_congr fun d h1 h2 => ?_
  rw [cv_row _ _ hn hN h1]
  rfl
theorem cv_comm (N : Nat) (f g : Nat → Int) (n : Nat) : cv N f g n = cv N g f n := by
  rw [cv, cv, sm_swap]
  refine sm_congr fun d _ _ => sm_congr fun e _ _ => ?_
  rw [Nat.mul_comm, Int.mul_comm]
theorem ov_comm {a b : List Int} {n : Nat} (hn : 1 ≤ n) : ovF a b n = ovF b a n := by
  rw [ov_cv hn (Nat.le_refl n), ov_cv hn (Nat.le_refl n), cv_comm]
theorem cv_congr {N n : Nat} {f f' g g' : Nat → Int} (h : ∀ i, 1 ≤ i → i ≤ N → f i = f' i) (h2 : ∀ i, 1 ≤ i → i ≤ N → g i = g' i) : cv N f g n = cv N f' g' n :=
  sm_congr fun d d1 d2 => sm_congr fun e e1 e2 => by rw [h d d1 d2, h2 e e1 e2]
/-- Three tables, all sums over c, d, e. -/
def cv3 (N : Nat) (f g h : Nat → Int) (n : Nat) : Int := sm N fun c => sm N fun d => sm N fun e => if c * d * e = n then f c * g d * h e else 0
theorem cv_left {N n : Nat} (f g h : Nat → Int) (hN : n ≤ N) : cv N (fun m => cv N f g m) h n = cv3 N f g h n := by
  have h1 : cv N (fun m => cv N f g m) h n = sm N fun m => sm N fun e => sm N fun c => sm N fun d => if c * d = m ∧ m * e = n then f c * g d * h e else 0 := by
    refine sm_congr fun m _ _ => sm_congr fun e _ _ => ?_
    by_cases hm : m * e = n
    · rw [if_pos hm]
      show cv N f g m * h e = _
      rw [Int.mul_comm, cv, ← sm_mul]
      refine sm_congr fun c _ _ => ?_
      rw [← sm_mul]
      refine sm_congr fun d _ _ => ?_
      by_cases hc : c * d = m
      · rw [if_pos hc, if_pos ⟨hc, hm⟩, Int.mul_comm]
      · rw [if_neg hc, if_neg (fun hh => hc hh.1), Int.mul_zero]
    · rw [if_neg hm]
      refine (sm_none fun c _ _ => sm_none fun d _ _ => if_neg fun hh => hm hh.2).symm
  rw [h1, sm_swap]
  have h2 : (sm N fun e => sm N fun m => sm N fun c => sm N fun d => if c * d = m ∧ m * e = n then f c * g d * h e else 0) = sm N fun e => sm N fun c => sm N fun d => if c * d * e = n then f c * g d * h e else 0 := by
    refine sm_congr fun e e1 _ => ?_
    rw [sm_swap]
    refine sm_congr fun c c1 _ => ?_
    rw [sm_swap]
    refine sm_congr fun d d1 _ => ?_
    by_cases hh : c * d * e = n
    · have hcd : c * d ≤ N := by
        have := Nat.le_mul_of_pos_right (c * d) (show 0 < e by omega)
        omega
      rw [sm_one (k := c * d) (Nat.mul_pos (by omega) (by omega)) hcd fun i _ _ hi => if_neg fun h3 => hi h3.1.symm, if_pos ⟨rfl, hh⟩, if_pos hh]
    · rw [if_neg hh]
      exact sm_none fun i _ _ => if_neg fun h3 => hh (by rw [h3.1]; exact h3.2)
  rw [h2, cv3, sm_swap]
  refine sm_congr fun c _ _ => ?_
  rw [sm_swap]
theorem cv_assoc {N n : Nat} (f g h : Nat → Int) (hN : n ≤ N) : cv N (fun m => cv N f g m) h n = cv N f (fun m => cv N g h m) n := by
  rw [cv_left f g h hN, cv_comm N f, cv_left g h f hN, cv3, cv3]
  rw [sm_swap]
  refine sm_congr fun d _ _ => ?_
  rw [sm_swap]
  refine sm_congr fun e _ _ => sm_congr fun c _ _ => ?_
  rw [show c * d * e = d * e * c by rw [Nat.mul_assoc, Nat.mul_comm], show f c * g d * h e = g d * h e * f c by rw [Int.mul_assoc, Int.mul_comm]]
/-- The product of tables that go with coprime products goes with them too. -/
theorem cv_mult {N m n : Nat} {x y : Nat → Int} (hm : 1 ≤ m) (hn : 1 ≤ n) (hN : m * n ≤ N) (hg : Nat.Coprime m n)
    (hx : ∀ a b, 1 ≤ a → 1 ≤ b → a * b ≤ N → Nat.Coprime a b → x (a * b) = x a * x b) (hy : ∀ a b, 1 ≤ a → 1 ≤ b → a * b ≤ N → Nat.Coprime a b → y (a * b) = y a * y b) :
    cv N x y (m * n) = cv N x y m * cv N x y n := by
  have hmn : 1 ≤ m * n := Nat.mul_pos (by omega) (by omega)
  have hmN : m ≤ N := Nat.le_trans (Nat.le_mul_of_pos_right m (by omega)) hN
  have hnN : n ≤ N := Nat.le_trans (Nat.le_mul_of_pos_left n (by omega)) hN
  have row : ∀ k, 1 ≤ k → k ≤ N → cv N x y k = sm N fun d => if k % d = 0 then x d * y (k / d) else 0 := fun k h1 h2 => by
    rw [cv]
    exact sm_congr fun d d1 _ => cv_row x y h1 h2 d1
  rw [row (m * n) hmn hN, row m hm hmN, row n hn hnN]
  have h1 : (sm N fun d => if m * n % d = 0 then x d * y (m * n / d) else 0) = sm N fun d => sm N fun a => sm N fun b => if a ∣ m ∧ b ∣ n ∧ a * b = d then x d * y (m * n / d) else 0 := by
    refine sm_congr fun d d1 d2 => ?_
    by_cases hd : m * n % d = 0
    · have hdv := Nat.dvd_of_mod_eq_zero hd
      have hp : Nat.gcd d m * Nat.gcd d n = d := by
        rw [← Nat.Coprime.gcd_mul d hg, Nat.gcd_eq_left hdv]
      have a1 : 1 ≤ Nat.gcd d m := Nat.gcd_pos_of_pos_left _ (by omega)
      have b1 : 1 ≤ Nat.gcd d n := Nat.gcd_pos_of_pos_left _ (by omega)
      have a2 : Nat.gcd d m ≤ N := Nat.le_trans (Nat.le_of_dvd (by omega) (Nat.gcd_dvd_left d m)) d2
      have b2 : Nat.gcd d n ≤ N := Nat.le_trans (Nat.le_of_dvd (by omega) (Nat.gcd_dvd_left d n)) d2
      have huniq : ∀ a b, a ∣ m → b ∣ n → a * b = d → a = Nat.gcd d m ∧ b = Nat.gcd d n := fun a b ha hb hab => by
        subst hab
        constructor
        · rw [Nat.Coprime.gcd_mul_right_cancel a (Nat.Coprime.coprime_dvd_left hb hg.symm), Nat.gcd_eq_left ha]
        · rw [Nat.Coprime.gcd_mul_left_cancel b (Nat.Coprime.coprime_dvd_left ha hg), Nat.gcd_eq_left hb]
      rw [if_pos hd, sm_one a1 a2 fun a _ _ hne => sm_none fun b _ _ => if_neg fun h3 => hne (huniq a b h3.1 h3.2.1 h3.2.2).1]
      rw [sm_one b1 b2 fun b _ _ hne => if_neg fun h3 => hne (huniq _ b h3.1 h3.2.1 h3.2.2).2, if_pos ⟨Nat.gcd_dvd_right d m, Nat.gcd_dvd_right d n, hp⟩]
    · rw [if_neg hd]
      refine (sm_none fun a _ _ => sm_none fun b _ _ => if_neg fun h3 => hd ?_).symm
      rw [← h3.2.2]
      exact Nat.mod_eq_zero_of_dvd (Nat.mul_dvd_mul h3.1 h3.2.1)
  rw [h1, sm_swap]
  rw [Int.mul_comm, ← sm_mul]
  refine sm_congr fun a a1 a2 => ?_
  rw [sm_swap, Int.mul_comm, ← sm_mul]
  refine sm_congr fun b b1 b2 => ?_
  by_cases ha : a ∣ m
  · by_cases hb : b ∣ n
    · have hab : a * b ≤ N := Nat.le_trans (Nat.le_of_dvd (by omega) (Nat.mul_dvd_mul ha hb)) hN
      rw [sm_one (k := a * b) (Nat.mul_pos (by omega) (by omega)) hab fun d _ _ hne => if_neg fun h3 => hne h3.2.2.symm, if_pos ⟨ha, hb, rfl⟩, if_pos (Nat.mod_eq_zero_of_dvd ha), if_pos (Nat.mod_eq_zero_of_dvd hb)]
      have hcop : Nat.Coprime a b := Nat.Coprime.coprime_dvd_left ha (Nat.Coprime.coprime_dvd_right hb hg)
      obtain ⟨a', rfl⟩ := ha
      obtain ⟨b', rfl⟩ := hb
      have e1 : a * a' * (b * b') = a * b * (a' * b') := Nat.mul_mul_mul_comm a a' b b'
      have p1 : 1 ≤ a' := by rcases Nat.eq_zero_or_pos a' with h0 | h0 <;> first | (subst h0; simp at hm) | exact h0
      have p2 : 1 ≤ b' := by rcases Nat.eq_zero_or_pos b' with h0 | h0 <;> first | (subst h0; simp at hn) | exact h0
      rw [e1, Nat.mul_div_cancel_left _ (Nat.mul_pos (by omega) (by omega)), Nat.mul_div_cancel_left _ (by omega), Nat.mul_div_cancel_left _ (by omega)]
      have hc2 : Nat.Coprime a' b' := Nat.Coprime.coprime_dvd_left (Nat.dvd_mul_left a' a) (Nat.Coprime.coprime_dvd_right (Nat.dvd_mul_left b' b) hg)
      have hab2 : a' * b' ≤ N := by
        rw [e1] at hN
        exact Nat.le_trans (Nat.le_mul_of_pos_left _ (Nat.mul_pos (by omega) (by omega))) hN
      rw [hx a b a1 b1 hab hcop, hy a' b' p1 p2 hab2 hc2]
      rw [Int.mul_assoc, Int.mul_assoc, ← Int.mul_assoc (x b), ← Int.mul_assoc (y a'), Int.mul_comm (x b)]
    · rw [sm_none fun d _ _ => if_neg fun h3 => hb h3.2.1, if_neg (fun h3 => hb (Nat.dvd_of_mod_eq_zero h3)), Int.mul_zero]
  · rw [sm_none fun d _ _ => if_neg fun h3 => ha h3.1, if_neg (fun h3 => ha (Nat.dvd_of_mod_eq_zero h3)), Int.zero_mul]
/-- The product of two kinds. -/
def ovG (f g : Nat → Int) (n : Nat) : Int := sm n fun d => if n % d = 0 then f d * g (n / d) else 0
/-! What the kinds' numbers are up to 200, looked up. -/
theorem tf_sign_t : ((List.range 200).all fun i => decide (ovG (tbF 0) (tbF 5) (i + 1) = u1 (i + 1))) = true := by decide +kernel
theorem tf_count_t : ((List.range 200).all fun i => decide (ovG (tbF 0) (tbF 0) (i + 1) = tbF 2 (i + 1))) = true := by decide +kernel
theorem tf_self_t : ((List.range 200).all fun i => decide (ovG (tbF 4) (tbF 0) (i + 1) = tbF 1 (i + 1))) = true := by decide +kernel
theorem tf_bound_t : ((List.range 7).all fun K => (List.range 200).all fun i => decide (-1000000 ≤ tbF K (i + 1) ∧ tbF K (i + 1) ≤ 1000000)) = true := by decide +kernel
theorem tf_mult_t : ((List.range 7).all fun K => (List.range 101).all fun a => (List.range (200 / a + 1)).all fun b => decide (a < 2) || decide (b < 2) || !(Nat.gcd a b == 1) || decide (tbF K (a * b) = tbF K a * tbF K b)) = true := by decide +kernel
theorem tf_one_t : ((List.range 7).all fun K => decide (tbF K 1 = 1)) = true := by decide +kernel
theorem tf_sign {n : Nat} (h1 : 1 ≤ n) (h2 : n ≤ 200) : ovG (tbF 0) (tbF 5) n = u1 n := by
  have := List.all_eq_true.1 tf_sign_t (n - 1) (List.mem_range.2 (by omega))
  rw [show n - 1 + 1 = n by omega] at this
  exact of_decide_eq_true this
theorem tf_count {n : Nat} (h1 : 1 ≤ n) (h2 : n ≤ 200) : ovG (tbF 0) (tbF 0) n = tbF 2 n := by
  have := List.all_eq_true.1 tf_count_t (n - 1) (List.mem_range.2 (by omega))
  rw [show n - 1 + 1 = n by omega] at this
  exact of_decide_eq_true this
theorem tf_self {n : Nat} (h1 : 1 ≤ n) (h2 : n ≤ 200) : ovG (tbF 4) (tbF 0) n = tbF 1 n := by
  have := List.all_eq_true.1 tf_self_t (n - 1) (List.mem_range.2 (by omega))
  rw [show n - 1 + 1 = n by omega] at this
  exact of_decide_eq_true this
theorem tf_one {K : Nat} (hK : K ≤ 6) : tbF K 1 = 1 := of_decide_eq_true (List.all_eq_true.1 tf_one_t K (List.mem_range.2 (by omega)))
theorem tf_mult {K a b : Nat} (hK : K ≤ 6) (ha : 2 ≤ a) (hb : 2 ≤ b) (h : a * b ≤ 200) (hg : Nat.gcd a b = 1) : tbF K (a * b) = tbF K a * tbF K b := by
  have hba : b ≤ 200 / a := (Nat.le_div_iff_mul_le (by omega)).2 (by rw [Nat.mul_comm]; exact h)
  have ha2 : a ≤ 100 := by
    have := Nat.mul_le_mul_left a hb
    omega
  have h1 := List.all_eq_true.1 (List.all_eq_true.1 (List.all_eq_true.1 tf_mult_t K (List.mem_range.2 (by omega))) a (List.mem_range.2 (by omega))) b (List.mem_range.2 (by omega))
  rw [decide_eq_false (by omega), decide_eq_false (by omega), hg] at h1
  exact of_decide_eq_true (by simpa using h1)
theorem tf_tab {K M : Nat} (hK : K ≤ 6) (h1 : 1 ≤ M) (h9 : M ≤ 200) : tabB (tbL K M) = true := by
  refine smallL_tab (fun k => ?_) (by rw [tbL_len]; exact h1) (by rw [tbL_len]; exact h9)
  by_cases hk : k < M
  · have := of_decide_eq_true (List.all_eq_true.1 (List.all_eq_true.1 tf_bound_t K (List.mem_range.2 (by omega))) k (List.mem_range.2 (by omega)))
    have e : ivL (tbL K M) k = tbF K (k + 1) := by simp [ivL, tbL, hk]
    rw [e]
    exact this
  · have e : ivL (tbL K M) k = 0 := by simp [ivL, tbL, hk]
    rw [e]
    omega
/-! Tables: what goes with what. -/
theorem list_eq {xs ys : List Int} (hl : xs.length = ys.length) (h : ∀ i, i < xs.length → ivL xs i = ivL ys i) : xs = ys := by
  apply List.ext_getElem hl
  intro i h1 h2
  have := h i h1
  simpa [ivL, h1, h2] using this
theorem ovL_comm (xs ys : List Int) (m : Nat) : ovL xs ys m = ovL ys xs m := by
  rw [ovL, ovL]
  exact List.map_congr_left fun i _ => ov_comm (by omega)
theorem ovO_comm (xs ys : List Int) : ovO xs ys = ovO ys xs ∧ ovR xs ys = ovR ys xs := by
  have hp : ovP xs ys = ovP ys xs := by
    rw [ovP, ovP, Bool.and_comm (tabB xs)]
    congr 1
    rw [decide_eq_decide]
    exact eq_comm
  have ho : ovO xs ys = ovO ys xs := by
    rw [ovO, ovO, hp]
    cases h : ovP ys xs with
    | false => rfl
    | true =>
      rw [ovP, Bool.and_eq_true, decide_eq_true_eq] at h
      rw [h.2, ovL_comm]
  refine ⟨ho, ?_⟩
  rw [ovR, ovR, ho]
  cases h : ovO ys xs with
  | false => rfl
  | true =>
    rw [ovO, Bool.and_eq_true, ovP, Bool.and_eq_true, decide_eq_true_eq] at h
    rw [if_pos rfl, if_pos rfl, h.1.2, ovL_comm]
theorem ov_parts {xs ys : List Int} (h : ovO xs ys = true) : tabB xs = true ∧ tabB ys = true ∧ xs.length = ys.length ∧ tabB (ovR xs ys) = true ∧ (ovR xs ys).length = xs.length ∧ ivL (ovR xs ys) 0 = ivL xs 0 * ivL ys 0 ∧ 1 ≤ xs.length := by
  rw [ovR_yes h]
  rw [ovO, Bool.and_eq_true, ovP, Bool.and_eq_true, Bool.and_eq_true, decide_eq_true_eq] at h
  obtain ⟨⟨⟨h1, h2⟩, h3⟩, h4⟩ := h
  have h5 := (tabB_small h1).2.1
  refine ⟨h1, h2, h3, h4, ovL_len _ _ _, ?_, h5⟩
  rw [ovL_at (by omega), ovF, ovS, ovS, tvF, if_pos (Nat.mod_one _)]
  show 0 + ivL xs 0 * ivL ys (1 / 1 - 1) = _
  rw [Int.zero_add]
theorem is_mult {xs : List Int} (h : isSV xs = true) : ∀ a b, 1 ≤ a → 1 ≤ b → a * b ≤ xs.length → Nat.Coprime a b → fa xs (a * b) = fa xs a * fa xs b := by
  rw [isSV, Bool.and_eq_true, isV1, Bool.and_eq_true, decide_eq_true_eq] at h
  obtain ⟨_, h1, h2⟩ := h
  intro a b ha hb hab hg
  have f1 : fa xs 1 = 1 := h1
  by_cases a1 : a = 1
  · subst a1; rw [Nat.one_mul, f1, Int.one_mul]
  · by_cases b1 : b = 1
    · subst b1; rw [Nat.mul_one, f1, Int.mul_one]
    · exact spAll_get h2 (by omega) (by omega) hab hg
theorem isV1_of {xs : List Int} (h1 : fa xs 1 = 1) (h : ∀ a b, 2 ≤ a → 2 ≤ b → a * b ≤ xs.length → Nat.gcd a b = 1 → fa xs (a * b) = fa xs a * fa xs b) : isV1 xs = true := by
  rw [isV1, Bool.and_eq_true, decide_eq_true_eq]
  refine ⟨h1, spAll_true fun m m2 _ => spRow_true (by omega) fun n n2 hmn => ?_⟩
  rw [spB]
  by_cases hg : Nat.gcd m n = 1
  · have := h m n m2 n2 hmn hg
    rw [fa, fa, fa] at this
    rw [this]
    simp
  · simp [hg]
/-- Products of spread tables are spread. -/
theorem ov_spread {xs ys : List Int} (h : ovO xs ys = true) (hx : isSV xs = true) (hy : isSV ys = true) : isSV (ovR xs ys) = true := by
  obtain ⟨p1, p2, p3, p4, p5, p6, p7⟩ := ov_parts h
  rw [isSV_yes p4]
  have f : ∀ n, 1 ≤ n → n ≤ xs.length → fa (ovR xs ys) n = cv xs.length (fa xs) (fa ys) n := fun n n1 n2 => by
    rw [fa, ovR_yes h, ovL_at (by omega), show n - 1 + 1 = n by omega, ov_cv n1 n2]
  refine isV1_of ?_ fun a b a2 b2 hab hg => ?_
  · show ivL (ovR xs ys) 0 = 1
    have hx1 := hx
    have hy1 := hy
    rw [isSV, Bool.and_eq_true, isV1, Bool.and_eq_true, decide_eq_true_eq] at hx1 hy1
    rw [p6, hx1.2.1, hy1.2.1]; rfl
  · rw [p5] at hab
    have ha : a ≤ xs.length := Nat.le_trans (Nat.le_mul_of_pos_right a (by omega)) hab
    have hb : b ≤ xs.length := Nat.le_trans (Nat.le_mul_of_pos_left b (by omega)) hab
    rw [f _ (Nat.mul_pos (by omega) (by omega)) hab, f a (by omega) ha, f b (by omega) hb]
    exact cv_mult (by omega) (by omega) hab hg (is_mult hx) (fun c d hc hd hcd hg2 => is_mult hy c d hc hd (by omega) hg2)
theorem one_sq {x : Int} (h : x = 1 ∨ x = -1) : x * x = 1 := by rcases h with h | h <;> subst h <;> rfl
theorem tv_last (a b : List Int) {n : Nat} (hn : 1 ≤ n) : ovF a b n = ovS a b n (n - 1) + ivL a (n - 1) * ivL b 0 := by
  obtain ⟨k, rfl⟩ : ∃ k, n = k + 1 := ⟨n - 1, by omega⟩
  rw [ovF, ovS, tvF, if_pos (Nat.mod_self _), Nat.div_self (by omega)]
  rfl
theorem un_prod {a : List Int} {L n : Nat} (h0 : ivL a 0 = 1 ∨ ivL a 0 = -1) (h1 : 1 ≤ n) (h2 : n ≤ L) : ovF (unL a L) a n = u1 n := by
  rw [tv_last _ _ h1, un_at h1 h2, Int.mul_assoc, one_sq h0]
  omega
theorem un_one {a : List Int} {L : Nat} (h1 : 1 ≤ L) : ivL (unL a L) 0 = ivL a 0 := by
  have h := un_at (a := a) (n := 1) (G := L) (Nat.le_refl 1) h1
  have e : ovS (unL a L) a 1 (1 - 1) = 0 := rfl
  have e2 : u1 1 = 1 := rfl
  rw [e, e2] at h
  have h' : ivL (unL a L) 0 = (1 - 0) * ivL a 0 := h
  rw [h']
  omega
theorem un_un {a : List Int} {L : Nat} (hL : a.length = L) (h1 : 1 ≤ L) (h0 : ivL a 0 = 1 ∨ ivL a 0 = -1) : unL (unL a L) L = a := by
  refine list_eq (by rw [unL_len, hL]) fun i hi => ?_
  rw [unL_len] at hi
  induction i using Nat.strongRecOn with
  | ind i ih =>
    have hu0 : ivL (unL a L) 0 = 1 ∨ ivL (unL a L) 0 = -1 := by rw [un_one h1]; exact h0
    have hv := un_at (a := unL a L) (n := i + 1) (G := L) (by omega) (by omega)
    rw [Nat.add_sub_cancel] at hv
    have hc : ovS (unL (unL a L) L) (unL a L) (i + 1) i = ovS a (unL a L) (i + 1) i := ovS_congr fun e he => ih e he (by omega)
    have hp : ovF a (unL a L) (i + 1) = u1 (i + 1) := by rw [ov_comm (by omega)]; exact un_prod h0 (by omega) (by omega)
    rw [tv_last _ _ (by omega), Nat.add_sub_cancel] at hp
    rw [hv, hc, ← hp]
    rw [show ovS a (unL a L) (i + 1) i + ivL a i * ivL (unL a L) 0 - ovS a (unL a L) (i + 1) i = ivL a i * ivL (unL a L) 0 by omega, Int.mul_assoc, one_sq hu0, Int.mul_one]
/-- A table undone, times the table, is the unit; undone again it is the table. -/
theorem un_all {xs : List Int} (h : unO xs = true) : (unR xs).length = xs.length ∧ ovO xs (unR xs) = true ∧ ovR xs (unR xs) = tbL 6 xs.length ∧ unO (unR xs) = true ∧ unR (unR xs) = xs ∧ 1 ≤ xs.length ∧ xs.length ≤ 200 := by
  rw [unR_yes h]
  rw [unO, Bool.and_eq_true, Bool.and_eq_true, decide_eq_true_eq] at h
  obtain ⟨⟨h1, h2⟩, h3⟩ := h
  obtain ⟨_, l1, l9⟩ := tabB_small h1
  have hl : ovL xs (unL xs xs.length) xs.length = tbL 6 xs.length := by
    refine list_eq (by rw [ovL_len, tbL_len]) fun i hi => ?_
    rw [ovL_len] at hi
    rw [ovL_at hi, ov_comm (by omega), un_prod h2 (by omega) (by omega), tb6_at hi]
  have ho : ovO xs (unL xs xs.length) = true := by
    rw [ovO, ovP, h1, h3, unL_len, decide_eq_true rfl, hl]
    exact smallL_tab (tb6_small _) (by rw [tbL_len]; exact l1) (by rw [tbL_len]; exact l9)
  have huu := un_un (a := xs) rfl l1 h2
  have hu : unO (unL xs xs.length) = true := by
    rw [unO, h3, unL_len, huu, h1, un_one l1, decide_eq_true h2]; rfl
  refine ⟨unL_len _ _, ho, by rw [ovR_yes ho, hl], hu, by rw [unR_yes hu, unL_len, huu], l1, l9⟩
theorem tb_fa {K M d : Nat} (h1 : 1 ≤ d) (h2 : d ≤ M) : fa (tbL K M) d = tbF K d := by
  have h : d - 1 < M := by omega
  rw [fa, tbL]
  simp [ivL, h, show d - 1 + 1 = d by omega]
theorem div_in {n d : Nat} (hn : 1 ≤ n) (h : n % d = 0) : 1 ≤ n / d ∧ n / d ≤ n := by
  have he : d * (n / d) = n := Nat.mul_div_cancel' (Nat.dvd_of_mod_eq_zero h)
  refine ⟨?_, Nat.div_le_self n d⟩
  rcases Nat.eq_zero_or_pos (n / d) with h0 | h0
  · rw [h0] at he; omega
  · exact h0
theorem ov_tb {K K' M n : Nat} (h1 : 1 ≤ n) (h2 : n ≤ M) : ovF (tbL K M) (tbL K' M) n = ovG (tbF K) (tbF K') n := by
  rw [ov_cv h1 (Nat.le_refl n), cv, ovG]
  refine sm_congr fun d d1 d2 => ?_
  rw [cv_row _ _ h1 (Nat.le_refl n) d1]
  by_cases h : n % d = 0
  · rw [if_pos h, if_pos h, tb_fa d1 (by omega), tb_fa (div_in h1 h).1 (by have := (div_in h1 h).2; omega)]
  · rw [if_neg h, if_neg h]
theorem cv_unit {N n : Nat} (f : Nat → Int) (h1 : 1 ≤ n) (h2 : n ≤ N) : cv N f u1 n = f n := by
  have : cv N f u1 n = sm N fun d => if n % d = 0 then f d * u1 (n / d) else 0 := by
    rw [cv]
    exact sm_congr fun d d1 _ => cv_row f u1 h1 h2 d1
  rw [this, sm_one h1 h2 fun d d1 d2 hd => ?_]
  · rw [if_pos (Nat.mod_self n), Nat.div_self (by omega)]
    show f n * 1 = _
    rw [Int.mul_one]
  · by_cases h : n % d = 0
    · rw [if_pos h]
      have he : d * (n / d) = n := Nat.mul_div_cancel' (Nat.dvd_of_mod_eq_zero h)
      have : n / d ≠ 1 := fun hh => hd (by rw [hh] at he; omega)
      rw [u1, if_neg this, Int.mul_zero]
    · rw [if_neg h]
/-- Sums over divisors, times the signs, are the table. -/
theorem so_all {xs : List Int} (h : soO xs = true) : (soR xs).length = xs.length ∧ ovO (soR xs) (tbL 5 xs.length) = true ∧ ovR (soR xs) (tbL 5 xs.length) = xs ∧ 1 ≤ xs.length ∧ xs.length ≤ 200 := by
  rw [soR_yes h]
  rw [soO, Bool.and_eq_true] at h
  obtain ⟨h1, h2⟩ := h
  obtain ⟨_, l1, l9⟩ := tabB_small h1
  have hlen : (soL xs).length = xs.length := ovL_len _ _ _
  have hl : ovL (soL xs) (tbL 5 xs.length) xs.length = xs := by
    refine list_eq (ovL_len _ _ _) fun i hi => ?_
    rw [ovL_len] at hi
    rw [ovL_at hi, ov_cv (by omega) (show i + 1 ≤ xs.length by omega)]
    have e1 : ∀ m, 1 ≤ m → m ≤ xs.length → fa (soL xs) m = cv xs.length (fa xs) (fa (tbL 0 xs.length)) m := fun m m1 m2 => by
      rw [fa, soL, ovL_at (by omega), show m - 1 + 1 = m by omega, ov_cv m1 m2]
    rw [cv_congr e1 (fun _ _ _ => rfl), cv_assoc _ _ _ (by omega)]
    have e2 : ∀ m, 1 ≤ m → m ≤ xs.length → cv xs.length (fa (tbL 0 xs.length)) (fa (tbL 5 xs.length)) m = u1 m := fun m m1 m2 => by
      rw [← ov_cv m1 m2, ov_tb m1 m2, tf_sign m1 (by omega)]
    rw [cv_congr (fun _ _ _ => rfl) e2, cv_unit _ (by omega) (by omega)]
    rfl
  have ho : ovO (soL xs) (tbL 5 xs.length) = true := by
    rw [ovO, ovP, h2, hlen, tbL_len, decide_eq_true rfl, hl, h1, tf_tab (by omega) l1 l9]; rfl
  exact ⟨hlen, ho, by rw [ovR_yes ho, hlen, hl], l1, l9⟩
/-- Tables of kinds. -/
theorem tb_all {K M : Nat} (hK : K ≤ 6) (h1 : 1 ≤ M) (h9 : M ≤ 200) : isSV (tbL K M) = true ∧ tabB (tbL K M) = true := by
  have ht := tf_tab hK h1 h9
  refine ⟨?_, ht⟩
  rw [isSV_yes ht]
  refine isV1_of ?_ fun a b a2 b2 hab hg => ?_
  · rw [tb_fa (Nat.le_refl 1) h1]
    exact (tf_one hK)
  · rw [tbL_len] at hab
    have ha : a ≤ M := Nat.le_trans (Nat.le_mul_of_pos_right a (by omega)) hab
    have hb : b ≤ M := Nat.le_trans (Nat.le_mul_of_pos_left b (by omega)) hab
    rw [tb_fa (Nat.mul_pos (by omega) (by omega)) hab, tb_fa (by omega) ha, tb_fa (by omega) hb]
    exact tf_mult hK a2 b2 (by omega) hg
theorem tb_both {M : Nat} (h1 : 1 ≤ M) (h9 : M ≤ 200) : ovO (tbL 0 M) (tbL 0 M) = true ∧ ovR (tbL 0 M) (tbL 0 M) = tbL 2 M ∧ soO (tbL 4 M) = true ∧ soR (tbL 4 M) = tbL 1 M := by
  have a : ovL (tbL 0 M) (tbL 0 M) M = tbL 2 M := list_eq (by rw [ovL_len, tbL_len]) fun i hi => by
    rw [ovL_len] at hi
    rw [ovL_at hi, ov_tb (by omega) (by omega), tf_count (by omega) (by omega)]
    exact (tb_fa (K := 2) (d := i + 1) (by omega) (by omega)).symm
  have b : soL (tbL 4 M) = tbL 1 M := list_eq (by rw [soL, ovL_len, tbL_len, tbL_len]) fun i hi => by
    rw [soL, ovL_len, tbL_len] at hi
    rw [soL, tbL_len, ovL_at hi, ov_tb (by omega) (by omega), tf_self (by omega) (by omega)]
    exact (tb_fa (K := 1) (d := i + 1) (by omega) (by omega)).symm
  have ho : ovO (tbL 0 M) (tbL 0 M) = true := by rw [ovO, ovP, tf_tab (by omega) h1 h9, decide_eq_true rfl, tbL_len, a, tf_tab (by omega) h1 h9]; rfl
  have hs : soO (tbL 4 M) = true := by rw [soO, b, tf_tab (by omega) h1 h9, tf_tab (by omega) h1 h9]; rfl
  exact ⟨ho, by rw [ovR_yes ho, tbL_len, a], hs, by rw [soR_yes hs, b]⟩

end Go.Proofs.Ytaapfapejekkfaa

namespace Go.Proofs.Ytaapfapejekkfaa
open Go.RowKit
set_option linter.unusedVariables false

/-- A cut behind three pieces. -/
theorem cut3_k {P : Program} {Q : Exit → Act → World → Prop} {x1 x2 x3 z : Code} {K : Act → World → Prop} {G : Prop}
    (hK : ∀ a w, (x1.seq (x2.seq (x3.seq z))).wp P Q a w → K a w) (R : Act → World → Prop)
    (main : (∀ a w, (∀ K3 : Act → World → Prop, (∀ a w, R a w → K3 a w) → ∀ K2 : Act → World → Prop, (∀ a w, x3.wp P (Exit.then K3 Q) a w → K2 a w) → ∀ K1 : Act → World → Prop, (∀ a w, x2.wp P (Exit.then K2 Q) a w → K1 a w) → x1.wp P (Exit.then K1 Q) a w) → K a w) → G)
    (tail : ∀ a w, R a w → z.wp P Q a w) : G :=
  main fun a w h => hK a w (wp_seq (h _ tail _ (fun a w hx => wp_seq hx) _ (fun a w hx => wp_seq hx)))
/-- An act by its temporaries, one after the other, named by one function. -/
theorem arr_by (t : Array Value) (n : Nat) (hs : t.size = n) (f : Nat → Value) (hf : ∀ i, i < n → t.getD i undef = f i) : t = ((List.range n).map f).toArray := by
  apply Array.ext
  · simp [hs]
  · intro i h1 h2
    have := hf i (by omega)
    rw [Array.getD_eq_getD_getElem?, Array.getElem?_eq_getElem h1] at this
    simp only [Option.getD_some] at this
    rw [this]
    simp
theorem act_by (a : Act) (n : Nat) (hd : a.defers = []) (hs : a.tmps.size = n) (f : Nat → Value) (hf : ∀ i, i < n → a.tmps.getD i undef = f i) : a = ⟨((List.range n).map f).toArray, []⟩ := by
  cases a with
  | mk t d =>
    simp only at hd hs hf
    subst hd
    rw [arr_by t n hs f hf]

end Go.Proofs.Ytaapfapejekkfaa

namespace Go.Proofs.Ytaapfapejekkfaa
open Go.RowKit
set_option linter.unusedVariables false

/-- A CUT: the walk of x1 and x2 ends in R, and what follows is walked once, from R on, however many ways lead there. -/
theorem cut_k {P : Program} {Q : Exit → Act → World → Prop} {x1 x2 z : Code} {K : Act → World → Prop} {G : Prop}
    (hK : ∀ a w, (x1.seq (x2.seq z)).wp P Q a w → K a w) (R : Act → World → Prop)
    (main : (∀ a w, (∀ K2 : Act → World → Prop, (∀ a w, R a w → K2 a w) → ∀ K1 : Act → World → Prop, (∀ a w, x2.wp P (Exit.then K2 Q) a w → K1 a w) → x1.wp P (Exit.then K1 Q) a w) → K a w) → G)
    (tail : ∀ a w, R a w → z.wp P Q a w) : G :=
  main fun a w h => hK a w (wp_seq (h _ tail _ fun a w hx => wp_seq hx))

end Go.Proofs.Ytaapfapejekkfaa

namespace Go.Proofs.Ytaapfapejekkfaa
open Go.RowKit Go.ChangeShapes Go.WideShapes Go.ChangeAt Go.Deep
set_option maxRecDepth 100000
set_option linter.unusedVariables false
set_option linter.unusedSimpArgs false

section
variable {H : Type} {enc : TypeId × Value → H} {W : World} {base b0 : Nat} {r : Reach} {spare : Nat → Bool} {held : Bool}
/-- An argument of type []int reads as numbers. -/
theorem open_intP {v : Value} {d : DataW H} {p : List MemPlace} (hval : Value.okWide Try.prog W r b0 48 v) (h : DataW.Trod enc Try.prog W base spare held 48 v d p) :
    ∃ A n c xs, v = .slice A n c ∧ n = xs.length ∧ n ≤ 9223372036854775807 ∧ Il W A xs := by
  obtain ⟨a0, len, cap, rfl⟩ := okWide_slice Try.underlying48 hval
  obtain ⟨fuel, hf⟩ := h
  rcases Go.ChangeShapes.open_ints Try.underlying48 Try.underlying3 (by kernel_rfl) hf with ⟨hcs, _⟩ | ⟨a, l, c, zs, hcs, _, hl, hm, hmm, _, hx, _⟩
  · simp [Value.cells] at hcs
    obtain ⟨rfl, rfl, rfl⟩ := hcs
    exact ⟨none, 0, 0, [], rfl, rfl, by omega, fun h => by simp at h⟩
  · simp [Value.cells] at hcs
    obtain ⟨rfl, rfl, rfl⟩ := hcs
    have hlm : len ≤ zs.length := by rw [hmm]; split <;> omega
    have hm' : len ≤ 9223372036854775807 := by unfold maxLen at hm; omega
    have htl : (zs.take len).length = len := by rw [List.length_take]; omega
    refine ⟨some a, len, cap, zs.take len, rfl, htl.symm, hm', fun hp => ?_⟩
    have hlen : 0 < len := by omega
    have c0 := hx 0 (by omega)
    obtain ⟨b, off, rfl⟩ := addr_plain c0
    refine ⟨b, off, rfl, World.block_lt_of_cell? W _ (by simpa [add_plain] using c0), fun k hk => ?_⟩
    have hk' : k < len := by omega
    have g0 := hx k (by omega)
    rw [add_plain] at g0
    rw [g0, ivL]
    simp [List.getD_eq_getElem?_getD, List.getElem?_take, hk']
/-- An argument of type []impl.Rule reads as rules. -/
theorem open_rulesP {v : Value} {d : DataW H} {p : List MemPlace} (hval : Value.okWide Try.prog W r b0 22 v) (h : DataW.Trod enc Try.prog W base spare held 22 v d p) :
    ∃ A n c rs, v = .slice A n c ∧ n = rs.length ∧ n ≤ 9223372036854775807 ∧ Rl W A rs := by
  obtain ⟨a0, len, cap, rfl⟩ := okWide_slice Try.underlying22 hval
  obtain ⟨fuel, hf⟩ := h
  rcases open_slice_pairs Try.underlying22 Try.underlying69 (by kernel_rfl) rfl rfl (by kernel_rfl) (by kernel_rfl) hf with ⟨hcs, _⟩ | ⟨a, l, c, m, n, V0, V1, D0, D1, P0, P1, hcs, _, hl, hm, hmm, _, hx⟩
  · simp [Value.cells] at hcs
    obtain ⟨rfl, rfl, rfl⟩ := hcs
    exact ⟨none, 0, 0, [], rfl, rfl, by omega, fun h => by simp at h⟩
  · simp [Value.cells] at hcs
    obtain ⟨rfl, rfl, rfl⟩ := hcs
    have hlm : len ≤ m := by rw [hmm]; split <;> omega
    have hm' : len ≤ 9223372036854775807 := by unfold maxLen at hm; omega
    have key : ∀ i, i < m → ∃ e q : Int, V0 i = .int .i64 e ∧ V1 i = .int .i64 q := by
      intro i hi
      obtain ⟨_, _, t0, t1⟩ := hx i hi
      obtain ⟨e, e0, _, _⟩ := DataW.trod_int Try.underlying3 t0
      obtain ⟨q, e1, _, _⟩ := DataW.trod_int Try.underlying3 t1
      exact ⟨e, q, by simpa using e0, by simpa using e1⟩
    let f : Nat → Int × Int := fun i => ((match V0 i with | .int _ q => q | _ => 0), (match V1 i with | .int _ q => q | _ => 0))
    refine ⟨some a, len, cap, (List.range len).map f, rfl, by simp, hm', fun hp => ?_⟩
    have hlen : 0 < len := by simpa using hp
    obtain ⟨c0, _, _, _⟩ := hx 0 (by omega)
    obtain ⟨b, off, rfl⟩ := addr_plain (by simpa using c0)
    refine ⟨b, off, rfl, World.block_lt_of_cell? W _ (by simpa [add_plain] using c0), fun k hk => ?_⟩
    have hk' : k < len := by simpa using hk
    obtain ⟨e, q, h0, h1⟩ := key k (by omega)
    obtain ⟨g0, g1, _, _⟩ := hx k (by omega)
    rw [add_plain] at g0 g1
    have hf1 : evL ((List.range len).map f) k = e := by simp [evL, hk', f, h0]
    have hf2 : reL ((List.range len).map f) k = q := by simp [reL, hk', f, h1]
    rw [hf1, hf2]
    exact ⟨by rw [g0, h0], by rw [← Nat.add_assoc] at g1; rw [g1, h1]⟩
end

end Go.Proofs.Ytaapfapejekkfaa
