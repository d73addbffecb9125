import Derived.Test.YtapjbppkekigaabO0
import Derived.Test.YtapjbppkekigaabL0
import Derived.StillTailTactics
namespace Go.Proofs.Ytapjbppkekigaab
open Go.RowKit
set_option maxRecDepth 100000
set_option linter.unusedVariables false
set_option linter.unusedSimpArgs false

/-- The sum of the first k numbers. -/
def sumZ (xs : List Int) : Nat → Int
  | 0 => 0
  | k + 1 => sumZ xs k + ivL xs k
theorem sumZ_bound {xs : List Int} (h : ∀ k, k < xs.length → 0 ≤ ivL xs k ∧ ivL xs k ≤ 1000000000) : ∀ k, k ≤ xs.length → 0 ≤ sumZ xs k ∧ sumZ xs k ≤ 1000000000 * (k : Int)
  | 0, _ => ⟨Int.le_refl _, by rw [sumZ]; omega⟩
  | k + 1, hk => by
    have a := sumZ_bound h k (by omega)
    have b := h k (by omega)
    rw [sumZ]
    omega

set_option maxHeartbeats 800000 in
theorem gSame_q (A B : Option Addr) (n m c d : Nat) (xs : List Int) (w : World) (hA : Il w A xs) (hB : Il w B xs) (hn : n = xs.length) (hm : m = xs.length) (hn1 : n ≤ 1048576) :
    Calls Try.prog 19 #[.slice A n c, .slice B m d] w fun en w' => en = .returned (.bool true) ∧ ∃ k, w' = w.drewN k := by
  have hnm : m = n := by rw [hn, hm]
  subst hnm
  have Hn := Lib.hid hn
  clear hn hm
  go_enter Try.func19, Try.ntmps19
  go_wp2
  go_loopw [13] (fun i wr => ∃ k nd : Nat, k ≤ m ∧ i = .int .i64 k ∧ wr = w.drewN nd) (fun i _ => m - (intOf i).toNat)
  case atStart => exact ⟨0, 0, Nat.zero_le _, rfl, rfl⟩
  case round =>
    obtain ⟨k, nd, hk, rfl, rfl⟩ := hrel
    by_cases hlt : k < m
    · have hlt1 : k < xs.length := by have := Hn.out; omega
      obtain ⟨b, off, rfl, hb, hr⟩ := hA (by omega)
      obtain ⟨b2, off2, rfl, hb2, hr2⟩ := hB (by omega)
      have hc0 := hr k hlt1
      have hd0 := hr2 k hlt1
      have hi1 : (k : Int) < (m : Int) := by omega
      have hne : (ivL xs k != ivL xs k) = false := by simp
      go_wp2_with fail
      go_quiet (fail)
      go_wp2
      go_roundw
      case rel => exact ⟨k + 1, _, by omega, by go_num, rfl⟩
      case measure => simp [intOf]; omega
    · go_wp2
      go_ret
      exact ⟨rfl, nd, rfl⟩
set_option maxHeartbeats 800000 in
theorem gSum_c (w : World) (A : Option Addr) (m c : Nat) (xs : List Int) (hA : Il w A xs) (hm : m = xs.length) (hn : m ≤ 1048576) (hb : ∀ k, k < xs.length → 0 ≤ ivL xs k ∧ ivL xs k ≤ 1000000000) :
    Calls Try.prog 20 #[.slice A m c] w fun en w' => en = .returned (.int .i64 (sumZ xs m)) ∧ Below w.heap.size w w' := by
  have Hm := Lib.hid hm
  have Hb := Lib.hid (sumZ_bound hb)
  have Hb1 := Lib.hid hb
  clear hm hb
  go_enter Try.func20, Try.ntmps20
  go_wp2
  go_loopw [3, 8] (fun s i wr => ∃ k : Nat, k ≤ m ∧ i = .int .i64 k ∧ s = .int .i64 (sumZ xs k) ∧ Below w.heap.size w wr) (fun s i _ => m - (intOf i).toNat)
  case atStart => exact ⟨0, Nat.zero_le _, rfl, rfl, Below.refl _ _⟩
  case round =>
    obtain ⟨k, hk, rfl, rfl, hbel⟩ := hrel
    by_cases hlt : k < m
    · have hlt1 : k < xs.length := by have := Hm.out; omega
      obtain ⟨b, off, rfl, hb, hr⟩ := hA (by omega)
      have hc0 := (hbel.cell (p := ⟨b, off + k, none⟩) hb).trans (hr k hlt1)
      have hi1 : (k : Int) < (m : Int) := by omega
      have hz := Hb.out k (by omega)
      have hz1 := Hb1.out k hlt1
      obtain ⟨Z, hZ⟩ : ∃ z, sumZ xs k = z := ⟨_, rfl⟩
      obtain ⟨X, hX⟩ : ∃ x, ivL xs k = x := ⟨_, rfl⟩
      have Hk := Lib.hid (show sumZ xs (k + 1) = Z + X by rw [sumZ, hZ, hX])
      rw [hZ] at hz ⊢
      rw [hX] at hz1 hc0
      clear hZ hX
      have hwr : IntKind.i64.wrap (Z + X) = Z + X := IntWalk.i64_in _ (by omega)
      go_wp2
      go_roundw
      case rel => exact ⟨k + 1, by omega, by go_num, by rw [Hk.out], by first | exact hbel | exact hbel.drew⟩
      case measure => simp [intOf]; omega
    · obtain rfl : k = m := by omega
      go_wp2
      go_ret
      exact ⟨rfl, hbel⟩



end Go.Proofs.Ytapjbppkekigaab
