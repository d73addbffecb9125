import Derived.Test.YtgkciiklgadgkaaT1
import Derived.Test.YtgkciiklgadgkaaKG
namespace Go.Proofs.Ytgkciiklgadgkaa
open Go.RowKit
set_option linter.unusedVariables false
set_option linter.unusedSimpArgs false

theorem take_succ' {xs : List Int} {k : Nat} (h : k < xs.length) : xs.take (k + 1) = xs.take k ++ [ivL xs k] := by
  rw [List.take_add_one, List.getElem?_eq_getElem h, show ivL xs k = xs[k] by simp [ivL, h]]
  rfl
/-- Whether the number at i is one of the first six primes, and none before it is the same. -/
def dfB (xs : List Int) (i : Nat) : Bool := reB (ivL xs i) && !hasF (xs.take i) (ivL xs i)
def dpB (xs : List Int) : Bool := decide (xs.length ≤ 6) && (List.range xs.length).all (dfB xs)
theorem dpB_iff {xs : List Int} : dpB xs = true ↔ xs.length ≤ 6 ∧ ∀ i, i < xs.length → dfB xs i = true := by
  rw [dpB, Bool.and_eq_true, decide_eq_true_eq, List.all_eq_true]
  simp
theorem dpB_no {xs : List Int} {i : Nat} (hi : i < xs.length) (h : dfB xs i = false) : dpB xs = false := by
  rw [Bool.eq_false_iff]
  intro hh
  rw [(dpB_iff.1 hh).2 i hi] at h
  cases h
theorem dpB_at {xs : List Int} (h : dpB xs = true) {i : Nat} (hi : i < xs.length) : 2 ≤ ivL xs i ∧ ivL xs i ≤ 13 := by
  have h2 := (dpB_iff.1 h).2 i hi
  rw [dfB, Bool.and_eq_true] at h2
  obtain ⟨k, hk, e⟩ := reB_iff.1 h2.1
  have := rpF_all k hk
  omega

set_option maxRecDepth 100000 in
set_option maxHeartbeats 800000 in
theorem rePrimes_c (w : World) (A : Option Addr) (m c : Nat) (xs : List Int) (hA : Il w A xs) (hm : m = xs.length) (hn : m ≤ 1048576) (hmc : m ≤ c) :
    Calls Try.prog 47 #[.slice A m c] w fun en w' => en = .returned (.bool (dpB xs)) ∧ w = w' := by
  have Hm := Lib.hid hm
  clear hm
  obtain ⟨T, hT⟩ : ∃ T, dpB xs = T := ⟨_, rfl⟩
  rw [hT]
  have HT := Lib.hid hT
  clear hT
  by_cases h6 : m ≤ 6
  · go_enter Try.func47, Try.ntmps47
    go_wp2_with fail
    go_loop [10] (fun i => ∃ k : Nat, k ≤ m ∧ i = .int .i64 (k : Int) ∧ (∀ j, j < k → dfB xs j = true)) (fun i => m - (intOf i).toNat)
    case atStart => exact ⟨0, Nat.zero_le _, rfl, fun j hj => by omega⟩
    case round =>
      obtain ⟨k, hk, rfl, hall⟩ := hrel
      have Hall := Lib.hid hall
      clear hall
      by_cases hlt : k < m
      · have Htk := Lib.hid (hA.take k)
        have Hkl := Lib.hid (show k = (xs.take k).length by have := Hm.out; rw [List.length_take]; omega)
        obtain ⟨b, off, rfl, hb, hr⟩ := hA (by have := Hm.out; omega)
        have hck := hr k (by have := Hm.out; omega)
        clear hr
        obtain ⟨x, hx⟩ : ∃ x, ivL xs k = x := ⟨_, rfl⟩
        rw [hx] at hck
        have Hd : Hid (dfB xs k = (reB x && !hasF (xs.take k) x)) := by show _ = _; rw [dfB, hx]
        have Hx := Lib.hid hx
        clear hx
        cases hre : reB x with
        | false =>
          have Hy : Hid (T = false) := by show _ = _; rw [← HT.out]; exact dpB_no (i := k) (by have := Hm.out; omega) (by rw [Hd.out, hre]; rfl)
          go_wp2_with (go_at_call 65; refine (reIs_c _ _).mono ?_; rw [hre]; rintro e w' ⟨rfl, rfl⟩)
          go_ret
          exact ⟨by rw [Hy.out]; rfl, rfl⟩
        | true =>
          cases hh : hasF (xs.take k) x with
          | true =>
            have Hy : Hid (T = false) := by show _ = _; rw [← HT.out]; exact dpB_no (i := k) (by have := Hm.out; omega) (by rw [Hd.out, hre, hh]; rfl)
            have Hre := Lib.hid hre
            have Hh := Lib.hid hh
            clear hre hh
            go_wp2_with (first | (go_at_call 65; refine (reIs_c _ _).mono ?_; rw [Hre.out]; rintro e w' ⟨rfl, rfl⟩) | (go_at_call 66; refine (l1Has_c _ _ _ _ _ Htk.out Hkl.out (by omega) _).mono ?_; rw [Hh.out]; rintro e w' ⟨rfl, rfl⟩))
            go_ret
            exact ⟨by rw [Hy.out]; rfl, rfl⟩
          | false =>
            have Hall2 := Lib.hid (fun j (hj : j < k + 1) => show dfB xs j = true by
              rcases Nat.lt_succ_iff_lt_or_eq.1 hj with h | h
              · exact Hall.out j h
              · rw [h, Hd.out, hre, hh]; rfl)
            have Hre := Lib.hid hre
            have Hh := Lib.hid hh
            clear hre hh
            go_wp2_with (first | (go_at_call 65; refine (reIs_c _ _).mono ?_; rw [Hre.out]; rintro e w' ⟨rfl, rfl⟩) | (go_at_call 66; refine (l1Has_c _ _ _ _ _ Htk.out Hkl.out (by omega) _).mono ?_; rw [Hh.out]; rintro e w' ⟨rfl, rfl⟩))
            go_round
            case rel => exact ⟨k + 1, by omega, by go_num, Hall2.out⟩
            case measure => simp [intOf]; omega
      · have Hy : Hid (T = true) := by show _ = _; rw [← HT.out]; exact dpB_iff.2 ⟨by have := Hm.out; omega, fun j hj => Hall.out j (by have := Hm.out; omega)⟩
        go_wp2
        go_ret
        exact ⟨by rw [Hy.out]; rfl, rfl⟩
  · have Hy : Hid (T = false) := by
      show _ = _
      rw [← HT.out, dpB, decide_eq_false (by have := Hm.out; omega)]
      rfl
    go_enter Try.func47, Try.ntmps47
    go_wp2
    go_ret
    exact ⟨by rw [Hy.out]; rfl, rfl⟩

end Go.Proofs.Ytgkciiklgadgkaa
