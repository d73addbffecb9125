import Derived.Test.YtgnmookklplnmaaT3
import Derived.Test.YtgnmookklplnmaaG5
namespace Go.Proofs.Ytgnmookklplnmaa
open Go.RowKit
set_option linter.unusedVariables false
set_option linter.unusedSimpArgs false

set_option maxRecDepth 100000 in
set_option maxHeartbeats 400000 in
theorem widthOf_c (w : World) (A : Option Addr) (m c : Nat) (xs : List Int) (hA : Il w A xs) (hm : m = xs.length) (hp : 1 ≤ m) (hn : m ≤ 1048576) :
    Calls Try.prog 62 #[.slice A m c] w fun en w' => en = .returned (.int .i64 (ivL xs (m - 1))) ∧ w = w' := by
  obtain ⟨b, off, rfl, hb, hr⟩ := hA (by omega)
  have hc := hr (m - 1) (by omega)
  obtain ⟨x, hx⟩ : ∃ x, ivL xs (m - 1) = x := ⟨_, rfl⟩
  rw [hx] at hc ⊢
  clear hr hx hm
  obtain ⟨k, rfl⟩ : ∃ k, m = k + 1 := ⟨m - 1, by omega⟩
  rw [Nat.add_sub_cancel] at hc
  have e1 : ((k + 1 : Nat) : Int) - 1 = (k : Int) := by omega
  go_enter Try.func62, Try.ntmps62
  go_wp2
  go_ret
  exact ⟨rfl, rfl⟩

set_option maxRecDepth 100000 in
set_option maxHeartbeats 800000 in
theorem implIsPattern_c (w : World) (A : Option Addr) (m c : Nat) (xs : List Int) (hA : Il w A xs) (hm : m = xs.length) (hn : m ≤ 1048576) :
    Calls Try.prog 21 #[.slice A m c] w fun en w' => en = .returned (.bool (goodP xs)) ∧ Below w.heap.size w w' := by
  have Hm := Lib.hid hm
  clear hm
  obtain ⟨T, hT⟩ : ∃ T, goodP xs = T := ⟨_, rfl⟩
  rw [hT]
  have HT := Lib.hid hT
  clear hT
  cases hb : inB (m : Int) 1 8 with
  | false =>
    have hF : Hid (T = false) := by show _ = _; rw [← HT.out, goodP, ← Hm.out, hb]; rfl
    have hb2 := inB_false.1 hb
    by_cases h1 : (m : Int) < 1
    · go_enter Try.func21, Try.ntmps21
      go_wp2
      go_ret
      exact ⟨by rw [hF.out]; rfl, Below.refl _ _⟩
    · have h8 : (8 : Int) < (m : Int) := by omega
      go_enter Try.func21, Try.ntmps21
      go_wp2
      go_ret
      exact ⟨by rw [hF.out]; rfl, Below.refl _ _⟩
  | true =>
    obtain ⟨m1, m8⟩ := inB_true.1 hb
    have h1 : ¬ (m : Int) < 1 := by omega
    have h8 : ¬ (8 : Int) < (m : Int) := by omega
    have hA2 := Lib.hid hA
    obtain ⟨b, off, rfl, hbs, hr⟩ := hA (by have := Hm.out; omega)
    have Hr := Lib.hid hr
    have hc0 := hr 0 (by have := Hm.out; omega)
    clear hr
    rw [Nat.add_zero] at hc0
    obtain ⟨x0, hx0⟩ : ∃ x, ivL xs 0 = x := ⟨_, rfl⟩
    rw [hx0] at hc0
    by_cases h0 : x0 = 0
    · subst h0
      have Hx0 := Lib.hid hx0
      clear hx0
      go_enter Try.func21, Try.ntmps21
      go_wp2
      go_loopw [3] (fun i wr => ∃ k : Nat, k + 1 ≤ m ∧ i = .int .i64 ((k : Int) + 1) ∧ (∀ j, j < k → ivL xs j < ivL xs (j + 1)) ∧ Below w.heap.size w wr) (fun i _ => m - (intOf i).toNat)
      case atStart => exact ⟨0, by omega, rfl, fun j hj => by omega, Below.refl _ _⟩
      case round =>
        obtain ⟨k, hk, rfl, hall, hbel⟩ := hrel
        have Hall := Lib.hid hall
        clear hall
        by_cases hlt : k + 1 < m
        · have e1 : IntKind.i64.wrap ((k : Int) + 1 - 1) = (k : Int) := by rw [Int.add_sub_cancel]; exact IntWalk.i64_in _ (by omega)
          have hck := (hbel.cell (p := ⟨b, off + k, none⟩) hbs).trans (Hr.out k (by have := Hm.out; omega))
          have hcn := (hbel.cell (p := ⟨b, off + (k + 1), none⟩) hbs).trans (Hr.out (k + 1) (by have := Hm.out; omega))
          obtain ⟨x, hx⟩ : ∃ x, ivL xs k = x := ⟨_, rfl⟩
          obtain ⟨y, hy⟩ : ∃ y, ivL xs (k + 1) = y := ⟨_, rfl⟩
          rw [hx] at hck
          rw [hy] at hcn
          by_cases hxy : x < y
          · have Hall2 := Lib.hid (fun j (hj : j < k + 1) => show ivL xs j < ivL xs (j + 1) by
              rcases Nat.lt_succ_iff_lt_or_eq.1 hj with h | h
              · exact Hall.out j h
              · rw [h, hx, hy]; exact hxy)
            clear hx hy
            go_wp2_with fail
            go_quiet (fail)
            clear e1
            go_wp2
            go_roundw
            case rel => exact ⟨k + 1, by omega, by go_num, Hall2.out, below_drewN hbel _⟩
            case measure => simp [intOf]; omega
          · have hF : Hid (T = false) := by
              show _ = _
              rw [← HT.out, goodP, incB_no (k := k) (by have := Hm.out; omega) (by rw [hx, hy]; exact hxy), Bool.and_false]
              rfl
            clear hx hy
            go_wp2_with fail
            go_quiet (fail)
            clear e1
            go_wp2
            go_ret
            exact ⟨by rw [hF.out]; rfl, below_drewN hbel _⟩
        · have hkm : k + 1 = m := by omega
          have hF : Hid (T = decide (ivL xs (m - 1) ≤ 60)) := by
            show _ = _
            rw [← HT.out, goodP, ← Hm.out, hb, Hx0.out, incB_yes (fun j hj => Hall.out j (by have := Hm.out; omega))]
            rfl
          obtain ⟨x, hx⟩ : ∃ x, ivL xs (m - 1) = x := ⟨_, rfl⟩
          have Hx := Lib.hid hx
          rw [hx] at hF
          clear hb hx Hall
          go_wp2_with fail
          refine (widthOf_c _ _ _ _ xs (hA2.out.below hbel) Hm.out (by omega) hn).mono ?_
          rw [Hx.out]
          rintro e w1 ⟨rfl, rfl⟩
          go_wp2
          go_ret
          exact ⟨by rw [hF.out]; rfl, hbel⟩
    · have hF : Hid (T = false) := by
        show _ = _
        rw [← HT.out, goodP, hx0, beq_eq_false_iff_ne.2 h0, Bool.and_false]
        rfl
      have hb0 : (x0 == 0) = false := beq_eq_false_iff_ne.2 h0
      clear hx0
      go_enter Try.func21, Try.ntmps21
      go_wp2
      go_ret
      exact ⟨by rw [hF.out]; rfl, Below.refl _ _⟩

set_option maxHeartbeats 400000 in
theorem isSought_c (n : Int) (w : World) :
    Calls Try.prog 72 #[.int .i64 n] w fun e w' => e = .returned (.bool (inB n 1 6)) ∧ w = w' := by
  by_cases h1 : 1 ≤ n
  · by_cases h2 : n ≤ 6
    · rw [inB_true.2 ⟨h1, h2⟩]
      go_enter Try.func72, Try.ntmps72
      go_wp2
      go_ret
      exact ⟨rfl, rfl⟩
    · rw [inB_false.2 (by omega)]
      go_enter Try.func72, Try.ntmps72
      go_wp2
      go_ret
      exact ⟨rfl, rfl⟩
  · rw [inB_false.2 (by omega)]
    go_enter Try.func72, Try.ntmps72
    go_wp2
    go_ret
    exact ⟨rfl, rfl⟩
set_option maxHeartbeats 400000 in
theorem isWidthSought_c (n : Int) (w : World) :
    Calls Try.prog 75 #[.int .i64 n] w fun e w' => e = .returned (.bool (inB n 0 30)) ∧ w = w' := by
  by_cases h1 : 0 ≤ n
  · by_cases h2 : n ≤ 30
    · rw [inB_true.2 ⟨h1, h2⟩]
      go_enter Try.func75, Try.ntmps75
      go_wp2
      go_ret
      exact ⟨rfl, rfl⟩
    · rw [inB_false.2 (by omega)]
      go_enter Try.func75, Try.ntmps75
      go_wp2
      go_ret
      exact ⟨rfl, rfl⟩
  · rw [inB_false.2 (by omega)]
    go_enter Try.func75, Try.ntmps75
    go_wp2
    go_ret
    exact ⟨rfl, rfl⟩
set_option maxHeartbeats 400000 in
theorem isWidth_c (n : Int) (w : World) :
    Calls Try.prog 99 #[.int .i64 n] w fun e w' => e = .returned (.bool (inB n 0 60)) ∧ w = w' := by
  by_cases h1 : 0 ≤ n
  · by_cases h2 : n ≤ 60
    · rw [inB_true.2 ⟨h1, h2⟩]
      go_enter Try.func99, Try.ntmps99
      go_wp2
      go_ret
      exact ⟨rfl, rfl⟩
    · rw [inB_false.2 (by omega)]
      go_enter Try.func99, Try.ntmps99
      go_wp2
      go_ret
      exact ⟨rfl, rfl⟩
  · rw [inB_false.2 (by omega)]
    go_enter Try.func99, Try.ntmps99
    go_wp2
    go_ret
    exact ⟨rfl, rfl⟩
set_option maxHeartbeats 400000 in
theorem isCountTold_c (n : Int) (w : World) :
    Calls Try.prog 82 #[.int .i64 n] w fun e w' => e = .returned (.bool (inB n 0 6)) ∧ w = w' := by
  by_cases h1 : 0 ≤ n
  · by_cases h2 : n ≤ 6
    · rw [inB_true.2 ⟨h1, h2⟩]
      go_enter Try.func82, Try.ntmps82
      go_wp2
      go_ret
      exact ⟨rfl, rfl⟩
    · rw [inB_false.2 (by omega)]
      go_enter Try.func82, Try.ntmps82
      go_wp2
      go_ret
      exact ⟨rfl, rfl⟩
  · rw [inB_false.2 (by omega)]
    go_enter Try.func82, Try.ntmps82
    go_wp2
    go_ret
    exact ⟨rfl, rfl⟩

end Go.Proofs.Ytgnmookklplnmaa
