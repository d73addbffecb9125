import Derived.Test.YtaapfapejekkfaaE1
namespace Go.Proofs.Ytaapfapejekkfaa
open Go.RowKit
set_option linter.unusedVariables false
set_option linter.unusedSimpArgs false

/-- How many of the first k numbers are q. -/
def tmN (xs : List Int) (q : Int) : Nat → Nat
  | 0 => 0
  | k + 1 => if ivL xs k = q then tmN xs q k + 1 else tmN xs q k
theorem tmN_le (xs : List Int) (q : Int) : ∀ k, tmN xs q k ≤ k
  | 0 => Nat.le_refl _
  | k + 1 => by have := tmN_le xs q k; rw [tmN]; split <;> omega
theorem tmN_yes {xs : List Int} {q : Int} {k : Nat} (h : ivL xs k = q) : tmN xs q (k + 1) = tmN xs q k + 1 := by rw [tmN, if_pos h]
theorem tmN_no {xs : List Int} {q : Int} {k : Nat} (h : ¬ ivL xs k = q) : tmN xs q (k + 1) = tmN xs q k := by rw [tmN, if_neg h]
set_option maxRecDepth 100000 in
set_option maxHeartbeats 800000 in
theorem timesIn_c (w : World) (A : Option Addr) (n c : Nat) (xs : List Int) (hA : Il w A xs) (hn : n = xs.length) (hl : n ≤ 1048576) (q : Int) :
    Calls Try.prog 233 #[.slice A n c, .int .i64 q] w fun en w' => en = .returned (.int .i64 (tmN xs q n : Int)) ∧ w = w' := by
  have HA := Lib.hid hA
  have Hn := Lib.hid hn
  clear hA hn
  go_enter Try.func233, Try.ntmps233
  go_wp2
  go_loop [5, 7, 10] (fun t _ i => ∃ k : Nat, k ≤ n ∧ i = .int .i64 (k : Int) ∧ t = .int .i64 (tmN xs q k : Int)) (fun _ _ i => n - (intOf i).toNat)
  case atStart => exact ⟨0, Nat.zero_le _, rfl, rfl⟩
  case round =>
    obtain ⟨k, hk, rfl, rfl⟩ := hrel
    have hcl := tmN_le xs q k
    by_cases hlt : k < n
    · obtain ⟨g, off, rfl, hg2, hcl⟩ := HA.out (by have := Hn.out; omega)
      have hck := hcl k (by have := Hn.out; omega)
      have hki : (k : Int) < (n : Int) := by omega
      by_cases hx : ivL xs k = q
      · have Hy := Lib.hid (tmN_yes hx)
        have hxb : (ivL xs k == q) = true := by rw [beq_iff_eq]; exact hx
        clear hx
        go_wp2
        go_round
        case rel => exact ⟨k + 1, by omega, by go_num, by rw [Hy.out]; go_num⟩
        case measure => simp [intOf]; omega
      · have Hy := Lib.hid (tmN_no hx)
        have hxb : (ivL xs k == q) = false := beq_eq_false_iff_ne.2 hx
        clear hx
        go_wp2
        go_round
        case rel => exact ⟨k + 1, by omega, by go_num, by rw [Hy.out]⟩
        case measure => simp [intOf]; omega
    · have Hk := Lib.hid (show k = n by omega)
      go_wp2
      go_ret
      exact ⟨by rw [← Hk.out]; rfl, rfl⟩

end Go.Proofs.Ytaapfapejekkfaa
