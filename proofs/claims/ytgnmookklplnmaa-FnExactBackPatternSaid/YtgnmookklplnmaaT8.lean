import Derived.Test.YtgnmookklplnmaaT7
import Derived.Test.YtgnmookklplnmaaG5
namespace Go.Proofs.Ytgnmookklplnmaa
open Go.RowKit
set_option linter.unusedVariables false
set_option linter.unusedSimpArgs false

theorem take_succ' {xs : List Int} {k : Nat} (h : k < xs.length) : xs.take (k + 1) = xs.take k ++ [ivL xs k] := by
  rw [List.take_add_one, List.getElem?_eq_getElem h, show ivL xs k = xs[k] by simp [ivL, h]]
  rfl
/-- Whether the number at i is one of the first six primes, and none before it is the same. -/
def dfB (xs : List Int) (i : Nat) : Bool := reB (ivL xs i) && !hasF (xs.take i) (ivL xs i)
def dpB (xs : List Int) : Bool := decide (xs.length ≤ 6) && (List.range xs.length).all (dfB xs)
theorem dpB_iff {xs : List Int} : dpB xs = true ↔ xs.length ≤ 6 ∧ ∀ i, i < xs.length → dfB xs i = true := by
  rw [dpB, Bool.and_eq_true, decide_eq_true_eq, List.all_eq_true]
  simp
theorem dpB_no {xs : List Int} {i : Nat} (hi : i < xs.length) (h : dfB xs i = false) : dpB xs = false := by
  rw [Bool.eq_false_iff]
  intro hh
  rw [(dpB_iff.1 hh).2 i hi] at h
  cases h
theorem dpB_at {xs : List Int} (h : dpB xs = true) {i : Nat} (hi : i < xs.length) : 2 ≤ ivL xs i ∧ ivL xs i ≤ 13 := by
  have h2 := (dpB_iff.1 h).2 i hi
  rw [dfB, Bool.and_eq_true] at h2
  obtain ⟨k, hk, e⟩ := reB_iff.1 h2.1
  have := rpF_all k hk
  omega

set_option maxRecDepth 100000 in
set_option maxHeartbeats 800000 in
theorem rePrimes_c (w : World) (A : Option Addr) (m c : Nat) (xs : List Int) (hA : Il w A xs) (hm : m = xs.length) (hn : m ≤ 1048576) (hmc : m ≤ c) :
    Calls Try.prog 95 #[.slice A m c] w fun en w' => en = .returned (.bool (dpB xs)) ∧ w = w' := by
  have Hm := Lib.hid hm
  clear hm
  obtain ⟨T, hT⟩ : ∃ T, dpB xs = T := ⟨_, rfl⟩
  rw [hT]
  have HT := Lib.hid hT
  clear hT
  by_cases h6 : m ≤ 6
  · go_enter Try.func95, Try.ntmps95
    go_wp2_with fail
    go_loop [10] (fun i => ∃ k : Nat, k ≤ m ∧ i = .int .i64 (k : Int) ∧ (∀ j, j < k → dfB xs j = true)) (fun i => m - (intOf i).toNat)
    case atStart => exact ⟨0, Nat.zero_le _, rfl, fun j hj => by omega⟩
    case round =>
      obtain ⟨k, hk, rfl, hall⟩ := hrel
      have Hall := Lib.hid hall
      clear hall
      by_cases hlt : k < m
      · have Htk := Lib.hid (hA.take k)
        have Hkl := Lib.hid (show k = (xs.take k).length by have := Hm.out; rw [List.length_take]; omega)
        obtain ⟨b, off, rfl, hb, hr⟩ := hA (by have := Hm.out; omega)
        have hck := hr k (by have := Hm.out; omega)
        clear hr
        obtain ⟨x, hx⟩ : ∃ x, ivL xs k = x := ⟨_, rfl⟩
        rw [hx] at hck
        have Hd : Hid (dfB xs k = (reB x && !hasF (xs.take k) x)) := by show _ = _; rw [dfB, hx]
        have Hx := Lib.hid hx
        clear hx
        cases hre : reB x with
        | false =>
          have Hy : Hid (T = false) := by show _ = _; rw [← HT.out]; exact dpB_no (i := k) (by have := Hm.out; omega) (by rw [Hd.out, hre]; rfl)
          go_wp2_with (go_at_call 63; refine (reIs_c _ _).mono ?_; rw [hre]; rintro e w' ⟨rfl, rfl⟩)
          go_ret
          exact ⟨by rw [Hy.out]; rfl, rfl⟩
        | true =>
          cases hh : hasF (xs.take k) x with
          | true =>
            have Hy : Hid (T = false) := by show _ = _; rw [← HT.out]; exact dpB_no (i := k) (by have := Hm.out; omega) (by rw [Hd.out, hre, hh]; rfl)
            have Hre := Lib.hid hre
            have Hh := Lib.hid hh
            clear hre hh
            go_wp2_with (first | (go_at_call 63; refine (reIs_c _ _).mono ?_; rw [Hre.out]; rintro e w' ⟨rfl, rfl⟩) | (go_at_call 79; refine (l1Has_c _ _ _ _ _ Htk.out Hkl.out (by omega) _).mono ?_; rw [Hh.out]; rintro e w' ⟨rfl, rfl⟩))
            go_ret
            exact ⟨by rw [Hy.out]; rfl, rfl⟩
          | false =>
            have Hall2 := Lib.hid (fun j (hj : j < k + 1) => show dfB xs j = true by
              rcases Nat.lt_succ_iff_lt_or_eq.1 hj with h | h
              · exact Hall.out j h
              · rw [h, Hd.out, hre, hh]; rfl)
            have Hre := Lib.hid hre
            have Hh := Lib.hid hh
            clear hre hh
            go_wp2_with (first | (go_at_call 63; refine (reIs_c _ _).mono ?_; rw [Hre.out]; rintro e w' ⟨rfl, rfl⟩) | (go_at_call 79; refine (l1Has_c _ _ _ _ _ Htk.out Hkl.out (by omega) _).mono ?_; rw [Hh.out]; rintro e w' ⟨rfl, rfl⟩))
            go_round
            case rel => exact ⟨k + 1, by omega, by go_num, Hall2.out⟩
            case measure => simp [intOf]; omega
      · have Hy : Hid (T = true) := by show _ = _; rw [← HT.out]; exact dpB_iff.2 ⟨by have := Hm.out; omega, fun j hj => Hall.out j (by have := Hm.out; omega)⟩
        go_wp2
        go_ret
        exact ⟨by rw [Hy.out]; rfl, rfl⟩
  · have Hy : Hid (T = false) := by
      show _ = _
      rw [← HT.out, dpB, decide_eq_false (by have := Hm.out; omega)]
      rfl
    go_enter Try.func95, Try.ntmps95
    go_wp2
    go_ret
    exact ⟨by rw [Hy.out]; rfl, rfl⟩

def rnO (xs : List Int) (n : Int) : Bool := dpB xs && inB n 0 1000000000
def rnV (xs : List Int) (n : Int) : List Int := if rnO xs n then xs.map (fun p => n % p) else []
theorem rnV_no {xs : List Int} {n : Int} (h : rnO xs n = false) : rnV xs n = [] := by rw [rnV, h]; rfl
theorem rnV_yes {xs : List Int} {n : Int} (h : rnO xs n = true) : rnV xs n = xs.map (fun p => n % p) := by rw [rnV, h]; rfl
theorem rnV_len (xs : List Int) (n : Int) : (rnV xs n).length ≤ 6 := by
  cases h : rnO xs n with
  | false => rw [rnV_no h]; simp
  | true =>
    rw [rnV_yes h, List.length_map]
    rw [rnO, Bool.and_eq_true] at h
    exact (dpB_iff.1 h.1).1

set_option maxRecDepth 100000 in
set_option maxHeartbeats 800000 in
theorem spec_RestsOfNumber_c (w : World) (A : Option Addr) (m c : Nat) (xs : List Int) (hA : Il w A xs) (hm : m = xs.length) (hn : m ≤ 1048576) (hmc : m ≤ c) (n : Int) :
    Calls Try.prog 55 #[.slice A m c, .int .i64 n] w fun en w' => (∃ v, en = .returned (.tuple #[v, .bool (rnO xs n)]) ∧ OwnI w' w.heap.size v (rnV xs n)) ∧ Below w.heap.size w w' := by
  have Hm := Lib.hid hm
  clear hm
  cases hg : dpB xs with
  | false =>
    have ho : rnO xs n = false := by simp [rnO, *]
    rw [rnV_no ho, ho]
    clear ho
    go_enter Try.func55, Try.ntmps55
    go_wp2_with fail
    refine (rePrimes_c _ _ _ _ xs hA Hm.out hn hmc).mono ?_
    rintro e w1 ⟨rfl, rfl⟩
    go_wp2
    go_ret2
    exact ⟨⟨_, rfl, OwnI.nil _ _⟩, (Below.refl _ _)⟩
  | true =>
    cases hk : inB n 0 1000000000 with
    | false =>
      have ho : rnO xs n = false := by simp [rnO, *]
      rw [rnV_no ho, ho]
      clear ho
      go_enter Try.func55, Try.ntmps55
      go_wp2_with fail
      refine (rePrimes_c _ _ _ _ xs hA Hm.out hn hmc).mono ?_
      rintro e w1 ⟨rfl, rfl⟩
      go_wp2_with fail
      refine (l1In_c _ _ _ _).mono ?_
      rintro e w2 ⟨rfl, rfl⟩
      go_wp2
      go_ret2
      exact ⟨⟨_, rfl, OwnI.nil _ _⟩, (Below.refl _ _)⟩
    | true =>
      have ho : rnO xs n = true := by simp [rnO, *]
      obtain ⟨n0, n9⟩ := inB_true.1 hk
      rw [rnV_yes ho, ho]
      clear ho
      have h6 : m ≤ 6 := by have := Hm.out; have := (dpB_iff.1 hg).1; omega
      have Hg := Lib.hid hg
      have Hk := Lib.hid hk
      go_enter Try.func55, Try.ntmps55
      go_wp2_with fail
      refine (rePrimes_c _ _ _ _ xs hA Hm.out hn hmc).mono ?_
      rintro e w1 ⟨rfl, rfl⟩
      go_wp2_with fail
      refine (l1In_c _ _ _ _).mono ?_
      rintro e w2 ⟨rfl, rfl⟩
      go_wp2_with fail
      go_loopw [6, 19] (fun v i wr => ∃ k : Nat, k ≤ m ∧ i = .int .i64 (k : Int) ∧ OwnI wr w.heap.size v ((xs.take k).map (fun p => n % p)) ∧ Below w.heap.size w wr) (fun _ i _ => m - (intOf i).toNat)
      case atStart => exact ⟨0, Nat.zero_le _, rfl, OwnI.nil _ _, Below.refl _ _⟩
      case round =>
        obtain ⟨k, hk, rfl, hown, hbel⟩ := hrel
        have Hown := Lib.hid hown
        clear hown
        have hs := hbel.size
        by_cases hlt : k < m
        · obtain ⟨b, off, rfl, hb, hr⟩ := hA (by have := Hm.out; omega)
          have hck := (hbel.cell (p := ⟨b, off + k, none⟩) hb).trans (hr k (by have := Hm.out; omega))
          have hd := dpB_at Hg.out (i := k) (by have := Hm.out; omega)
          clear hr
          have Hy : Hid ((xs.take (k + 1)).map (fun p => n % p) = (xs.take k).map (fun p => n % p) ++ [n % ivL xs k]) := by
            show _ = _
            rw [take_succ' (by have := Hm.out; omega), List.map_append]
            rfl
          have Hl := Lib.hid (show ((xs.take k).map (fun p => n % p)).length ≤ 1048576 by rw [List.length_map, List.length_take]; omega)
          have hz : (ivL xs k == 0) = false := beq_eq_false_iff_ne.2 (by omega)
          go_wp2_with (at_builtin; refine wp_app_int _ rfl _ _ rfl w.heap.size _ _ rfl Hown.out _ rfl Hl.out hs ?_; intro v' w6 hown6 b6)
          go_roundw
          case rel => exact ⟨k + 1, by omega, by go_num, by rw [Hy.out]; exact hown6, hbel.trans b6⟩
          case measure => simp [intOf]; omega
        · have Hy : Hid ((xs.take k).map (fun p => n % p) = xs.map (fun p => n % p)) := by show _ = _; rw [List.take_of_length_le (by have := Hm.out; omega)]
          go_wp2
          go_ret2
          exact ⟨⟨_, rfl, by rw [← Hy.out]; exact Hown.out⟩, hbel⟩

end Go.Proofs.Ytgnmookklplnmaa
