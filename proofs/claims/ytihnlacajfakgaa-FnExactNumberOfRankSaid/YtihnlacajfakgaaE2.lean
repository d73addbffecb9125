import Derived.Test.YtihnlacajfakgaaE1
import Derived.IntWalk
namespace Go.Proofs.Ytihnlacajfakgaa
open Go.RowKit
set_option linter.unusedVariables false
set_option linter.unusedSimpArgs false

def allB (xs : List Int) (lo hi : Int) : Bool := decide (∀ k, k < xs.length → inB (ivL xs k) lo hi = true)
theorem allB_true {xs : List Int} {lo hi : Int} (h : ∀ k, k < xs.length → inB (ivL xs k) lo hi = true) : allB xs lo hi = true := decide_eq_true h
theorem allB_false {xs : List Int} {lo hi : Int} {k : Nat} (h : k < xs.length) (h2 : inB (ivL xs k) lo hi = false) : allB xs lo hi = false := decide_eq_false fun hh => by rw [hh k h] at h2; cases h2

set_option maxRecDepth 100000 in
set_option maxHeartbeats 400000 in
theorem l1All_c (w : World) (A : Option Addr) (m c : Nat) (xs : List Int) (hA : Il w A xs) (hm : m = xs.length) (hn : m ≤ 1048576) (lo hi : Int) :
    Calls Try.prog 76 #[.slice A m c, .int .i64 lo, .int .i64 hi] w fun en w' => en = .returned (.bool (allB xs lo hi)) ∧ w = w' := by
  have Hm := Lib.hid hm
  clear hm
  go_enter Try.func76, Try.ntmps76
  go_wp2
  go_loop [11] (fun i => ∃ k : Nat, k ≤ m ∧ i = .int .i64 k ∧ (∀ j, j < k → inB (ivL xs j) lo hi = true)) (fun i => m - (intOf i).toNat)
  case atStart => exact ⟨0, Nat.zero_le _, rfl, by omega⟩
  case round =>
    obtain ⟨k, hk, rfl, hall⟩ := hrel
    have Hall := Lib.hid hall
    clear hall
    by_cases hlt : k < m
    · have hlt1 : k < xs.length := by have := Hm.out; omega
      obtain ⟨b, off, rfl, hb, hr⟩ := hA (by omega)
      have hc0 := hr k hlt1
      cases hok : inB (ivL xs k) lo hi with
      | true =>
        go_wp2_with (go_at_call 62; refine (l1In_c _ _ _ _).mono ?_; rintro e w' ⟨rfl, rfl⟩)
        go_round
        case rel => exact ⟨k + 1, by omega, by go_num, fun j hj => by rcases Nat.lt_succ_iff_lt_or_eq.1 hj with h | h; exact Hall.out j h; rw [h]; exact hok⟩
        case measure => simp [intOf]; omega
      | false =>
        go_wp2_with (go_at_call 62; refine (l1In_c _ _ _ _).mono ?_; rintro e w' ⟨rfl, rfl⟩)
        go_ret
        exact ⟨by rw [allB_false hlt1 hok]; rfl, rfl⟩
    · go_wp2
      go_ret
      exact ⟨by rw [allB_true fun j hj => Hall.out j (by have := Hm.out; omega)]; rfl, rfl⟩

def goodS (xs : List Int) : Bool := decide (xs.length ≤ 12) && allB xs 2 400
theorem goodS_len {xs : List Int} (h : goodS xs = true) : xs.length ≤ 12 := by
  simp only [goodS, Bool.and_eq_true, decide_eq_true_eq] at h
  exact h.1
theorem goodS_at {xs : List Int} (h : goodS xs = true) {k : Nat} (hk : k < xs.length) : 2 ≤ ivL xs k ∧ ivL xs k ≤ 400 := by
  simp only [goodS, allB, Bool.and_eq_true, decide_eq_true_eq] at h
  exact inB_true.1 (h.2 k hk)
theorem goodS_long {xs : List Int} {m : Nat} (hm : m = xs.length) (h : ¬ m ≤ 12) : goodS xs = false := by
  simp only [goodS, Bool.and_eq_false_iff, decide_eq_false_iff_not]
  exact .inl (by omega)
theorem goodS_short {xs : List Int} {m : Nat} (hm : m = xs.length) (h : m ≤ 12) : goodS xs = allB xs 2 400 := by
  rw [goodS, decide_eq_true (by omega : xs.length ≤ 12)]
  rfl

set_option maxHeartbeats 400000 in
theorem cnGood_c (w : World) (A : Option Addr) (m c : Nat) (xs : List Int) (hA : Il w A xs) (hm : m = xs.length) (hn : m ≤ 1048576) :
    Calls Try.prog 52 #[.slice A m c] w fun en w' => en = .returned (.bool (goodS xs)) ∧ w = w' := by
  by_cases h12 : m ≤ 12
  · rw [goodS_short hm h12]
    have Hm := Lib.hid hm
    clear hm
    go_enter Try.func52, Try.ntmps52
    go_wp2_with (go_at_call 76; refine (l1All_c _ _ _ _ xs hA Hm.out hn _ _).mono ?_; rintro e w' ⟨rfl, rfl⟩)
    go_ret
    exact ⟨rfl, rfl⟩
  · rw [goodS_long hm h12]
    go_enter Try.func52, Try.ntmps52
    go_wp2
    go_ret
    exact ⟨rfl, rfl⟩

set_option maxHeartbeats 400000 in
theorem spec_IsStepList_c (w : World) (A : Option Addr) (m c : Nat) (xs : List Int) (hA : Il w A xs) (hm : m = xs.length) (hn : m ≤ 1048576) :
    Calls Try.prog 18 #[.slice A m c] w fun en w' => en = .returned (.bool (goodS xs)) ∧ Below w.heap.size w w' := by
  have Hm := Lib.hid hm
  clear hm
  go_enter Try.func18, Try.ntmps18
  go_wp2_with (go_at_call 52; refine (cnGood_c _ _ _ _ xs hA Hm.out hn).mono ?_; rintro e w' ⟨rfl, rfl⟩)
  go_ret
  exact ⟨rfl, Below.refl _ _⟩

set_option maxRecDepth 100000 in
set_option maxHeartbeats 400000 in
theorem isStepList_c (w : World) (A : Option Addr) (m c : Nat) (xs : List Int) (hA : Il w A xs) (hm : m = xs.length) (hn : m ≤ 1048576) :
    Calls Try.prog 20 #[.slice A m c] w fun en w' => en = .returned (.bool (goodS xs)) ∧ w = w' := by
  by_cases h12 : m ≤ 12
  · rw [goodS_short hm h12]
    have Hm := Lib.hid hm
    clear hm
    go_enter Try.func20, Try.ntmps20
    go_wp2
    go_loop [10] (fun i => ∃ k : Nat, k ≤ m ∧ i = .int .i64 k ∧ (∀ j, j < k → inB (ivL xs j) 2 400 = true)) (fun i => m - (intOf i).toNat)
    case atStart => exact ⟨0, Nat.zero_le _, rfl, by omega⟩
    case round =>
      obtain ⟨k, hk, rfl, hall⟩ := hrel
      have Hall := Lib.hid hall
      clear hall
      by_cases hlt : k < m
      · have hlt1 : k < xs.length := by have := Hm.out; omega
        obtain ⟨b, off, rfl, hb, hr⟩ := hA (by omega)
        have hc0 := hr k hlt1
        by_cases h1 : 2 ≤ ivL xs k
        · by_cases h2 : ivL xs k ≤ 400
          · go_wp2
            go_round
            case rel => exact ⟨k + 1, by omega, by go_num, fun j hj => by rcases Nat.lt_succ_iff_lt_or_eq.1 hj with h | h; exact Hall.out j h; rw [h]; exact inB_true.2 ⟨h1, h2⟩⟩
            case measure => simp [intOf]; omega
          · go_wp2
            go_ret
            exact ⟨by rw [allB_false hlt1 (inB_false.2 (by omega))]; rfl, rfl⟩
        · go_wp2
          go_ret
          exact ⟨by rw [allB_false hlt1 (inB_false.2 (by omega))]; rfl, rfl⟩
      · go_wp2
        go_ret
        exact ⟨by rw [allB_true fun j hj => Hall.out j (by have := Hm.out; omega)]; rfl, rfl⟩
  · rw [goodS_long hm h12]
    go_enter Try.func20, Try.ntmps20
    go_wp2
    go_ret
    exact ⟨rfl, rfl⟩
theorem impl_IsStepList_c (w : World) (A : Option Addr) (m c : Nat) (xs : List Int) (hA : Il w A xs) (hm : m = xs.length) (hn : m ≤ 1048576) :
    Calls Try.prog 20 #[.slice A m c] w fun en w' => en = .returned (.bool (goodS xs)) ∧ Below w.heap.size w w' :=
  (isStepList_c w A m c xs hA hm hn).mono fun _ _ h => ⟨h.1, by rw [← h.2]; exact Below.refl _ _⟩

end Go.Proofs.Ytihnlacajfakgaa
