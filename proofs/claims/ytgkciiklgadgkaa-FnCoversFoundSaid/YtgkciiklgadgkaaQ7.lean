import Derived.Test.YtgkciiklgadgkaaKQ
import Derived.Test.YtgkciiklgadgkaaP6
import Derived.Test.YtgkciiklgadgkaaP7
namespace Go.Proofs.Ytgkciiklgadgkaa
open Go.RowKit
set_option linter.unusedVariables false
set_option linter.unusedSimpArgs false

/-- Strictly rising, as far as looked at. -/
def risB (xs : List Int) : Bool := (List.range (xs.length - 1)).all fun i => decide (ivL xs i < ivL xs (i + 1))
theorem risB_no {xs : List Int} {i : Nat} (hi : i + 1 < xs.length) (h : ivL xs (i + 1) ≤ ivL xs i) : risB xs = false := by
  rw [risB, List.all_eq_false]
  exact ⟨i, List.mem_range.2 (by omega), by simpa using h⟩
theorem risB_yes {xs : List Int} (h : ∀ i, i + 1 < xs.length → ivL xs i < ivL xs (i + 1)) : risB xs = true := by
  rw [risB, List.all_eq_true]
  exact fun i hi => decide_eq_true (h i (by have := List.mem_range.1 hi; omega))
/-- Whether the primes are asked for as the document says. -/
def gpP (xs : List Int) : Bool := decide (xs.length ≤ 5) && (dpB xs && risB xs)
theorem gpP_long {xs : List Int} (h : 5 < xs.length) : gpP xs = false := by rw [gpP, decide_eq_false (by omega)]; rfl
theorem gpP_bad {xs : List Int} (h : dpB xs = false) : gpP xs = false := by rw [gpP, h]; simp
theorem gpP_fall {xs : List Int} (h : risB xs = false) : gpP xs = false := by rw [gpP, h]; simp
theorem gpP_good {xs : List Int} (h1 : xs.length ≤ 5) (h2 : dpB xs = true) (h3 : risB xs = true) : gpP xs = true := by rw [gpP, h2, h3, decide_eq_true h1]; rfl
theorem gpP_parts {xs : List Int} (h : gpP xs = true) : xs.length ≤ 5 ∧ dpB xs = true ∧ risB xs = true := by
  simp only [gpP, Bool.and_eq_true, decide_eq_true_eq] at h
  exact h
set_option maxRecDepth 100000 in
set_option maxHeartbeats 1000000 in
theorem gpPrimes_c (w : World) (A : Option Addr) (m c : Nat) (xs : List Int) (hA : Il w A xs) (hm : m = xs.length) (hn : m ≤ 1048576) (hmc : m ≤ c) :
    Calls Try.prog 28 #[.slice A m c] w fun en w' => en = .returned (.bool (gpP xs)) ∧ Below w.heap.size w w' := by
  have Hm := Lib.hid hm
  have Hr := rePrimes_c w A m c xs hA hm hn hmc
  by_cases h5 : m ≤ 5
  rotate_left
  · have ho := gpP_long (xs := xs) (by omega)
    rw [ho]
    have h5I : (5 : Int) < (m : Int) := by omega
    clear ho hm Hr h5
    go_enter Try.func28, Try.ntmps28
    go_wp2
    go_ret
    exact ⟨rfl, Below.refl _ _⟩
  have h5I : (m : Int) ≤ 5 := by omega
  cases hd : dpB xs with
  | false =>
    rw [gpP_bad hd]
    rw [hd] at Hr
    have HR := Lib.hid Hr
    clear Hr hd hm
    go_enter Try.func28, Try.ntmps28
    go_wp2_with fail
    refine HR.out.mono ?_
    rintro e w2 ⟨rfl, rfl⟩
    go_wp2
    go_ret
    exact ⟨rfl, Below.refl _ _⟩
  | true =>
    rw [hd] at Hr
    have HR := Lib.hid Hr
    have Hat := Lib.hid (fun i (hi : i < xs.length) => dpB_at hd hi)
    obtain ⟨T, hT⟩ : ∃ T, gpP xs = T := ⟨_, rfl⟩
    have Hgood := Lib.hid (fun h3 => hT.symm.trans (gpP_good (by omega) hd h3))
    have Hfall := Lib.hid (fun h3 => hT.symm.trans (gpP_fall h3))
    rw [hT]
    clear Hr hd hm hT
    go_enter Try.func28, Try.ntmps28
    go_wp2_with fail
    refine HR.out.mono ?_
    rintro e w2 ⟨rfl, rfl⟩
    go_wp2
    go_loopw [3] (fun i wr => ∃ k K : Nat, K = k + 1 ∧ (k ≤ m - 1) ∧ i = .int .i64 (K : Int) ∧ (∀ j, j < k → ivL xs j < ivL xs (j + 1)) ∧ Below w.heap.size w wr) (fun i _ => m + 1 - (intOf i).toNat)
    case atStart => exact ⟨0, 1, rfl, Nat.zero_le _, rfl, fun j h => by omega, Below.refl _ _⟩
    case round =>
      obtain ⟨k, K, hK, hk, rfl, hall, hbel⟩ := hrel
      have Hall := Lib.hid hall
      clear hall
      have hs := hbel.size
      have hKp : (K : Int) - 1 = (k : Int) := by omega
      have HK := Lib.hid hK
      by_cases hlt : K < m
      · obtain ⟨b, off, rfl, hb, hr⟩ := hA (by have := Hm.out; omega)
        have hc1 := (hbel.cell (p := ⟨b, off + K, none⟩) hb).trans (hr K (by have := Hm.out; omega))
        have hc0 := (hbel.cell (p := ⟨b, off + k, none⟩) hb).trans (hr k (by have := Hm.out; omega))
        have hkS : (k : Int) < (m : Int) := by omega
        have hni : (K : Int) < (m : Int) := by omega
        have hb0 : (0 : Int) ≤ (k : Int) := Int.natCast_nonneg k
        have hb1 : (0 : Int) ≤ (K : Int) := Int.natCast_nonneg K
        have hw0 : IntKind.i64.wrap (k : Int) = (k : Int) := IntWalk.i64_in _ (by omega)
        by_cases hx : ivL xs K ≤ ivL xs k
        · have Hy := Lib.hid (Hfall.out (risB_no (i := k) (by have := Hm.out; omega) (by rw [← hK]; exact hx)))
          clear hr hK
          go_wp2_with fail
          go_quiet (fail)
          go_wp2
          go_ret
          exact ⟨by rw [Hy.out]; rfl, below_drewN hbel _⟩
        · have hx2 : ivL xs k < ivL xs K := by omega
          have Hall2 := Lib.hid (fun j (hj : j < K) => show ivL xs j < ivL xs (j + 1) by
            rcases Nat.lt_succ_iff_lt_or_eq.1 (hK ▸ hj) with h | h
            · exact Hall.out j h
            · rw [h, ← hK]; exact hx2)
          clear hr hK hx
          go_wp2_with fail
          go_quiet (fail)
          go_wp2
          go_roundw
          case rel => exact ⟨K, K + 1, rfl, by omega, by go_num, Hall2.out, below_drewN hbel _⟩
          case measure => simp [intOf]; omega
      · have Hy := Lib.hid (Hgood.out (risB_yes fun i hi => Hall.out i (by have := Hm.out; have := HK.out; omega)))
        clear hK
        go_wp2
        go_ret
        exact ⟨by rw [Hy.out]; rfl, hbel⟩
def rwV (xs : List Int) : List (Int × Int) := if gpP xs then ruL xs else []
theorem rwV_no {xs : List Int} (h : gpP xs = false) : rwV xs = [] := by rw [rwV, h]; rfl
theorem rwV_yes {xs : List Int} (h : gpP xs = true) : rwV xs = ruL xs := by rw [rwV, h]; rfl
theorem rwV_len (xs : List Int) : (rwV xs).length ≤ 5 := by
  cases h : gpP xs with
  | false => rw [rwV_no h]; simp
  | true => rw [rwV_yes h, ruL_len]; exact (gpP_parts h).1
set_option maxRecDepth 100000 in
set_option maxHeartbeats 800000 in
theorem spec_RulesWithout_c (w : World) (A : Option Addr) (m c : Nat) (xs : List Int) (hA : Il w A xs) (hm : m = xs.length) (hn : m ≤ 1048576) (hmc : m ≤ c) :
    Calls Try.prog 10 #[.slice A m c] w fun en w' => (∃ v, en = .returned (.tuple #[v, .bool (gpP xs)]) ∧ OwnR w' w.heap.size v (rwV xs)) ∧ Below w.heap.size w w' := by
  have Hm := Lib.hid hm
  clear hm
  cases hg : gpP xs with
  | false =>
    rw [rwV_no hg]
    go_enter Try.func10, Try.ntmps10
    go_wp2_with fail
    refine (gpPrimes_c _ _ _ _ xs hA Hm.out hn hmc).mono ?_
    rintro e w1 ⟨rfl, b1⟩
    have hA_1 := hA.below b1
    go_wp2
    go_ret2
    exact ⟨⟨_, rfl, OwnR.nil _ _⟩, b1⟩
  | true =>
    rw [rwV_yes hg]
    have hl5 := (gpP_parts hg).1
    have Hg := Lib.hid hg
    go_enter Try.func10, Try.ntmps10
    go_wp2_with fail
    refine (gpPrimes_c _ _ _ _ xs hA Hm.out hn hmc).mono ?_
    rintro e w1 ⟨rfl, b1⟩
    have hA_1 := hA.below b1
    go_wp2
    go_loopw [4, 6, 12] (fun v _ i wr => ∃ k : Nat, k ≤ m ∧ i = .int .i64 (k : Int) ∧ OwnR wr w.heap.size v (ruL (xs.take k)) ∧ Below w.heap.size w wr) (fun _ _ i _ => m - (intOf i).toNat)
    case atStart => exact ⟨0, Nat.zero_le _, rfl, World.ownsRow_nil _ _ _ _, b1⟩
    case round =>
      rename_i v _
      obtain ⟨k, hk, rfl, hown, hbel⟩ := hrel
      have Hown := Lib.hid hown
      clear hown
      have hs := hbel.size
      by_cases hlt : k < m
      · have hlt1 : k < xs.length := by have := Hm.out; omega
        obtain ⟨g, off, rfl, hg2, hc⟩ := hA (by omega)
        have hc0 := (hbel.cell (p := ⟨g, off + k, none⟩) hg2).trans (hc k hlt1)
        clear hc
        have Hy := Lib.hid (ruL_succ hlt1)
        have Hl := Lib.hid (show (ruL (xs.take k)).length ≤ 1048576 by rw [ruL_len, List.length_take]; omega)
        have hki : (k : Int) < (m : Int) := by omega
        go_wp2_with (at_builtin; refine wp_app_rule _ rfl _ _ rfl w.heap.size _ _ rfl Hown.out _ _ rfl Hl.out hs ?_; intro v' w4 hown4 b4)
        go_roundw
        case rel => exact ⟨k + 1, by omega, by go_num, by rw [Hy.out]; exact hown4, hbel.trans b4⟩
        case measure => simp [intOf]; omega
      · have Hk := Lib.hid (show xs.take k = xs from List.take_of_length_le (by have := Hm.out; omega))
        go_wp2
        go_ret2
        exact ⟨⟨_, rfl, by rw [← Hk.out]; exact Hown.out⟩, hbel⟩
def gqO (xs : List Int) (n : Int) : Bool := gpP xs && inB n 0 40
set_option maxRecDepth 100000 in
theorem gpAsked_c (w : World) (A : Option Addr) (m c : Nat) (xs : List Int) (hA : Il w A xs) (hm : m = xs.length) (hn : m ≤ 1048576) (hmc : m ≤ c) (n : Int) :
    Calls Try.prog 36 #[.slice A m c, .int .i64 n] w fun en w' => en = .returned (.bool (gqO xs n)) ∧ Below w.heap.size w w' := by
  have Hp := gpPrimes_c w A m c xs hA hm hn hmc
  clear hm
  cases hg : gpP xs with
  | false =>
    have ho : gqO xs n = false := by rw [gqO, hg]; rfl
    rw [hg] at Hp
    have HP := Lib.hid Hp
    rw [ho]
    clear ho hg Hp
    go_enter Try.func36, Try.ntmps36
    go_wp2_with fail
    refine HP.out.mono ?_
    rintro e w2 ⟨rfl, b2⟩
    go_wp2
    go_ret
    exact ⟨rfl, b2⟩
  | true =>
    have ho : gqO xs n = inB n 0 40 := by rw [gqO, hg]; rfl
    rw [hg] at Hp
    have HP := Lib.hid Hp
    rw [ho]
    clear ho hg Hp
    go_enter Try.func36, Try.ntmps36
    go_wp2_with fail
    refine HP.out.mono ?_
    rintro e w2 ⟨rfl, b2⟩
    go_wp2_with fail
    refine (l1In_c _ _ _ _).mono ?_
    rintro e w3 ⟨rfl, rfl⟩
    go_wp2
    go_ret
    exact ⟨rfl, b2⟩

end Go.Proofs.Ytgkciiklgadgkaa
