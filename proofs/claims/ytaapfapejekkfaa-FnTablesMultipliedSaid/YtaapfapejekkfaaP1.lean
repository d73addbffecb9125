import Derived.Test.YtaapfapejekkfaaE1
import Derived.IntWalk
namespace Go.Proofs.Ytaapfapejekkfaa
open Go.RowKit
set_option linter.unusedVariables false
set_option linter.unusedSimpArgs false

def allB (xs : List Int) (lo hi : Int) : Bool := decide (∀ k, k < xs.length → inB (ivL xs k) lo hi = true)
theorem allB_true {xs : List Int} {lo hi : Int} (h : ∀ k, k < xs.length → inB (ivL xs k) lo hi = true) : allB xs lo hi = true := decide_eq_true h
theorem allB_false {xs : List Int} {lo hi : Int} {k : Nat} (h : k < xs.length) (h2 : inB (ivL xs k) lo hi = false) : allB xs lo hi = false := decide_eq_false fun hh => by rw [hh k h] at h2; cases h2

set_option maxRecDepth 100000 in
set_option maxHeartbeats 400000 in
theorem l1All_c (w : World) (A : Option Addr) (m c : Nat) (xs : List Int) (hA : Il w A xs) (hm : m = xs.length) (hn : m ≤ 1048576) (lo hi : Int) :
    Calls Try.prog 308 #[.slice A m c, .int .i64 lo, .int .i64 hi] w fun en w' => en = .returned (.bool (allB xs lo hi)) ∧ w = w' := by
  have Hm := Lib.hid hm
  clear hm
  go_enter Try.func308, Try.ntmps308
  go_wp2
  go_loop [11] (fun i => ∃ k : Nat, k ≤ m ∧ i = .int .i64 k ∧ (∀ j, j < k → inB (ivL xs j) lo hi = true)) (fun i => m - (intOf i).toNat)
  case atStart => exact ⟨0, Nat.zero_le _, rfl, by omega⟩
  case round =>
    obtain ⟨k, hk, rfl, hall⟩ := hrel
    have Hall := Lib.hid hall
    clear hall
    by_cases hlt : k < m
    · have hlt1 : k < xs.length := by have := Hm.out; omega
      obtain ⟨b, off, rfl, hb, hr⟩ := hA (by omega)
      have hc0 := hr k hlt1
      cases hok : inB (ivL xs k) lo hi with
      | true =>
        go_wp2_with (go_at_call 190; refine (l1In_c _ _ _ _).mono ?_; rintro e w' ⟨rfl, rfl⟩)
        go_round
        case rel => exact ⟨k + 1, by omega, by go_num, fun j hj => by rcases Nat.lt_succ_iff_lt_or_eq.1 hj with h | h; exact Hall.out j h; rw [h]; exact hok⟩
        case measure => simp [intOf]; omega
      | false =>
        go_wp2_with (go_at_call 190; refine (l1In_c _ _ _ _).mono ?_; rintro e w' ⟨rfl, rfl⟩)
        go_ret
        exact ⟨by rw [allB_false hlt1 hok]; rfl, rfl⟩
    · go_wp2
      go_ret
      exact ⟨by rw [allB_true fun j hj => Hall.out j (by have := Hm.out; omega)]; rfl, rfl⟩

end Go.Proofs.Ytaapfapejekkfaa
