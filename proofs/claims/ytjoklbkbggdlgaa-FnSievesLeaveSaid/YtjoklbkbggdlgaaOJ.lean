import Derived.Test.YtjoklbkbggdlgaaO0
import Derived.Test.YtjoklbkbggdlgaaL0
import Derived.StillTailTactics
namespace Go.Proofs.Ytjoklbkbggdlgaa
open Go.RowKit
set_option maxRecDepth 100000
set_option linter.unusedVariables false
set_option linter.unusedSimpArgs false

/-- The sum of the first k numbers. -/
def sumZ (xs : List Int) : Nat → Int
  | 0 => 0
  | k + 1 => sumZ xs k + ivL xs k
theorem sumZ_bound {xs : List Int} (h : ∀ k, k < xs.length → 0 ≤ ivL xs k ∧ ivL xs k ≤ 1000000000) : ∀ k, k ≤ xs.length → 0 ≤ sumZ xs k ∧ sumZ xs k ≤ 1000000000 * (k : Int)
  | 0, _ => ⟨Int.le_refl _, by rw [sumZ]; omega⟩
  | k + 1, hk => by
    have a := sumZ_bound h k (by omega)
    have b := h k (by omega)
    rw [sumZ]
    omega


set_option maxHeartbeats 800000 in
theorem tSame_q (A B : Option Addr) (n m c d : Nat) (xs : List Int) (w : World) (hA : Il w A xs) (hB : Il w B xs) (hn : n = xs.length) (hm : m = xs.length) (hn1 : n ≤ 1048576) :
    Calls Try.prog 11 #[.slice A n c, .slice B m d] w fun en w' => en = .returned (.bool true) ∧ ∃ k, w' = w.drewN k := by
  have hnm : m = n := by rw [hn, hm]
  subst hnm
  have Hn := Lib.hid hn
  clear hn hm
  go_enter Try.func11, Try.ntmps11
  go_wp2
  go_loopw [13] (fun i wr => ∃ k nd : Nat, k ≤ m ∧ i = .int .i64 k ∧ wr = w.drewN nd) (fun i _ => m - (intOf i).toNat)
  case atStart => exact ⟨0, 0, Nat.zero_le _, rfl, rfl⟩
  case round =>
    obtain ⟨k, nd, hk, rfl, rfl⟩ := hrel
    by_cases hlt : k < m
    · have hlt1 : k < xs.length := by have := Hn.out; omega
      obtain ⟨b, off, rfl, hb, hr⟩ := hA (by omega)
      obtain ⟨b2, off2, rfl, hb2, hr2⟩ := hB (by omega)
      have hc0 := hr k hlt1
      have hd0 := hr2 k hlt1
      have hi1 : (k : Int) < (m : Int) := by omega
      have hne : (ivL xs k != ivL xs k) = false := by simp
      go_wp2_with fail
      go_quiet (fail)
      go_wp2
      go_roundw
      case rel => exact ⟨k + 1, _, by omega, by go_num, rfl⟩
      case measure => simp [intOf]; omega
    · go_wp2
      go_ret
      exact ⟨rfl, nd, rfl⟩

set_option maxHeartbeats 800000 in
theorem tRises_c (w : World) (A : Option Addr) (m c : Nat) (xs : List Int) (lo hi : Int) (hA : Il w A xs) (hm : m = xs.length) (hn : m ≤ 1048576) (hb : ∀ k, k < xs.length → lo ≤ ivL xs k ∧ ivL xs k ≤ hi ∧ ∀ j, k = j + 1 → ivL xs j < ivL xs k) :
    Calls Try.prog 14 #[.slice A m c, .int .i64 lo, .int .i64 hi] w fun en w' => en = .returned (.bool true) ∧ Below w.heap.size w w' := by
  have Hm := Lib.hid hm
  have Hb := Lib.hid hb
  clear hm hb
  go_enter Try.func14, Try.ntmps14
  go_wp2
  go_loopw [11] (fun i wr => ∃ k : Nat, k ≤ m ∧ i = .int .i64 k ∧ Below w.heap.size w wr) (fun i _ => m - (intOf i).toNat)
  case atStart => exact ⟨0, Nat.zero_le _, rfl, Below.refl _ _⟩
  case round =>
    obtain ⟨k, hk, rfl, hbel⟩ := hrel
    by_cases hlt : k < m
    · have hlt1 : k < xs.length := by have := Hm.out; omega
      obtain ⟨b, off, rfl, hb, hr⟩ := hA (by omega)
      have hc0 := (hbel.cell (p := ⟨b, off + k, none⟩) hb).trans (hr k hlt1)
      have hi1 : (k : Int) < (m : Int) := by omega
      obtain ⟨g1, g2, g3⟩ := Hb.out k hlt1
      cases k with
      | zero =>
        obtain ⟨X, hX⟩ : ∃ x, ivL xs 0 = x := ⟨_, rfl⟩
        rw [hX] at hc0 g1 g2
        clear g3 hX
        rw [Nat.add_zero] at hc0
        have t1 : decide (X < lo) = false := decide_eq_false (by omega)
        have t2 : decide (hi < X) = false := decide_eq_false (by omega)
        go_wp2
        go_roundw
        case rel => exact ⟨1, by omega, rfl, by first | exact hbel | exact hbel.drew⟩
        case measure => simp [intOf]; omega
      | succ q =>
        have hcq := (hbel.cell (p := ⟨b, off + q, none⟩) hb).trans (hr q (by omega))
        have g4 := g3 q rfl
        clear g3
        obtain ⟨X, hX⟩ : ∃ x, ivL xs (q + 1) = x := ⟨_, rfl⟩
        obtain ⟨Y, hY⟩ : ∃ x, ivL xs q = x := ⟨_, rfl⟩
        rw [hX] at hc0 g1 g2 g4
        rw [hY] at hcq g4
        clear hX hY
        have t1 : decide (X < lo) = false := decide_eq_false (by omega)
        have t2 : decide (hi < X) = false := decide_eq_false (by omega)
        have t3 : decide (X ≤ Y) = false := decide_eq_false (by omega)
        have t4 : ((q + 1 : Nat) : Int) - 1 = (q : Int) := by omega
        have t5 : (0 : Int) < ((q + 1 : Nat) : Int) := by omega
        have t6 : decide ((0 : Int) < ((q + 1 : Nat) : Int)) = true := decide_eq_true t5
        have t7 : (0 : Int) ≤ (q : Int) := by omega
        have t8 : (q : Int) < (m : Int) := by omega
        go_wp2
        go_roundw
        case rel => exact ⟨q + 1 + 1, by omega, by go_num, by first | exact hbel | exact hbel.drew⟩
        case measure => simp [intOf]; omega
    · go_wp2
      go_ret
      exact ⟨rfl, hbel⟩
theorem eq_ruleT (a b : Int) (w : World) : (Op.equalIn 10000 39 (.agg #[.int .i64 a, .int .i64 b]) (.agg #[.int .i64 a, .int .i64 b])).run Try.prog w = .ok true w := by
  have hu := Try.underlying39
  go_simp
set_option maxHeartbeats 800000 in
theorem tRules_c (A B : Option Addr) (n m c d : Nat) (rs : List (Int × Int)) (w : World) (hA : Rl w A rs) (hB : Rl w B rs) (hn : n = rs.length) (hm : m = rs.length) (hn1 : n ≤ 1048576) :
    Calls Try.prog 38 #[.slice A n c, .slice B m d] w fun en w' => en = .returned (.bool true) ∧ Below w.heap.size w w' := by
  have hnm : m = n := by rw [hn, hm]
  subst hnm
  have Hn := Lib.hid hn
  clear hn hm
  go_enter Try.func38, Try.ntmps38
  go_wp2
  go_loopw [13] (fun i wr => ∃ k : Nat, k ≤ m ∧ i = .int .i64 k ∧ Below w.heap.size w wr) (fun i _ => m - (intOf i).toNat)
  case atStart => exact ⟨0, Nat.zero_le _, rfl, Below.refl _ _⟩
  case round =>
    obtain ⟨k, hk, rfl, hbel⟩ := hrel
    by_cases hlt : k < m
    · have hlt1 : k < rs.length := by have := Hn.out; omega
      obtain ⟨b, off, rfl, hb, hr⟩ := hA (by omega)
      obtain ⟨b2, off2, rfl, hb2, hr2⟩ := hB (by omega)
      have hc0 := (hbel.cell (p := ⟨b, off + k * 2, none⟩) hb).trans (hr k hlt1).1
      have hc1 := (hbel.cell (p := ⟨b, off + k * 2 + 1, none⟩) hb).trans (hr k hlt1).2
      have hd0 := (hbel.cell (p := ⟨b2, off2 + k * 2, none⟩) hb2).trans (hr2 k hlt1).1
      have hd1 := (hbel.cell (p := ⟨b2, off2 + k * 2 + 1, none⟩) hb2).trans (hr2 k hlt1).2
      have hi1 : (k : Int) < (m : Int) := by omega
      have heq := eq_ruleT (evL rs k) (reL rs k)
      go_wp2_with fail
      go_still_tail 8, (by kernel_rfl)
      go_wp2
      go_roundw
      case rel => exact ⟨k + 1, by omega, by go_num, hbel.drew⟩
      case measure => simp [intOf]; omega
    · go_wp2
      go_ret
      exact ⟨rfl, hbel⟩

end Go.Proofs.Ytjoklbkbggdlgaa
