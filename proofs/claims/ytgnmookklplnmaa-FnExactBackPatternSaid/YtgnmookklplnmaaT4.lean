import Derived.Test.YtgnmookklplnmaaT3
namespace Go.Proofs.Ytgnmookklplnmaa
open Go.RowKit
set_option linter.unusedVariables false
set_option linter.unusedSimpArgs false

def akO (xs : List Int) (n : Int) : Bool := goodP xs && inB n 0 6
theorem akO_parts {xs : List Int} {n : Int} (h : akO xs n = true) : goodP xs = true ∧ 0 ≤ n ∧ n ≤ 6 := by
  rw [akO, Bool.and_eq_true] at h
  have := inB_true.1 h.2
  exact ⟨h.1, this.1, this.2⟩
/-- How many places there are in a period of the first k primes. -/
def plN (xs : List Int) : Nat → Nat
  | 0 => 1
  | k + 1 => plN xs k * (rpF k - (rsA xs (rpF k)).length)
def peN : Nat → Nat
  | 0 => 1
  | k + 1 => peN k * rpF k
theorem peN_all : ∀ k, k < 7 → 1 ≤ peN k ∧ peN k ≤ 30030 := by decide
theorem plN_le (xs : List Int) : ∀ k, plN xs k ≤ peN k
  | 0 => Nat.le_refl _
  | k + 1 => Nat.mul_le_mul (plN_le xs k) (Nat.sub_le _ _)
def ppV (xs : List Int) (n : Int) : Int := if akO xs n then (plN xs n.toNat : Int) else 0
theorem ppV_no {xs : List Int} {n : Int} (h : akO xs n = false) : ppV xs n = 0 := by rw [ppV, h]; rfl
theorem ppV_yes {xs : List Int} {n : Nat} (h : akO xs (n : Int) = true) : ppV xs (n : Int) = (plN xs n : Int) := by rw [ppV, h, Int.toNat_natCast]; rfl

set_option maxRecDepth 100000 in
set_option maxHeartbeats 400000 in
theorem reAsked_c (w : World) (A : Option Addr) (m c : Nat) (xs : List Int) (hA : Il w A xs) (hm : m = xs.length) (hn : m ≤ 1048576) (n : Int) :
    Calls Try.prog 77 #[.slice A m c, .int .i64 n] w fun en w' => en = .returned (.bool (akO xs n)) ∧ Below w.heap.size w w' := by
  have Hm := Lib.hid hm
  clear hm
  cases hg : goodP xs with
  | false =>
    have Hy : Hid (akO xs n = false) := by show _ = _; rw [akO, hg]; rfl
    go_enter Try.func77, Try.ntmps77
    go_wp2_with fail
    refine (reGood_c _ _ _ _ xs hA Hm.out hn).mono ?_
    rintro e w1 ⟨rfl, b1⟩
    go_wp2
    go_ret
    exact ⟨by rw [Hy.out]; rfl, b1⟩
  | true =>
    have Hy : Hid (akO xs n = inB n 0 6) := by show _ = _; rw [akO, hg]; rfl
    go_enter Try.func77, Try.ntmps77
    go_wp2_with fail
    refine (reGood_c _ _ _ _ xs hA Hm.out hn).mono ?_
    rintro e w1 ⟨rfl, b1⟩
    go_wp2_with (go_at_call 70; refine (l1In_c _ _ _ _).mono ?_; rintro e w' ⟨rfl, rfl⟩)
    go_ret
    exact ⟨by rw [Hy.out]; rfl, b1⟩

set_option maxRecDepth 100000 in
set_option maxHeartbeats 800000 in
theorem rePlaces_c (w : World) (A : Option Addr) (m c : Nat) (xs : List Int) (hA : Il w A xs) (hm : m = xs.length) (hn : m ≤ 1048576) (hx : ∀ k, k < xs.length → 0 ≤ ivL xs k ∧ ivL xs k ≤ 1000000) (n : Nat) (h6 : n ≤ 6) :
    Calls Try.prog 86 #[.slice A m c, .int .i64 (n : Int)] w fun en w' => en = .returned (.tuple #[.int .i64 (plN xs n : Int), .int .i64 (peN n : Int)]) ∧ Below w.heap.size w w' := by
  have Hm := Lib.hid hm
  have Hx := Lib.hid hx
  clear hm hx
  go_enter Try.func86, Try.ntmps86
  go_wp2_with fail
  go_loopw [6, 7, 8] (fun a b i wr => ∃ k : Nat, k ≤ n ∧ i = .int .i64 (k : Int) ∧ a = .int .i64 (plN xs k : Int) ∧ b = .int .i64 (peN k : Int) ∧ Below w.heap.size w wr) (fun _ _ i _ => n - (intOf i).toNat)
  case atStart => exact ⟨0, Nat.zero_le _, rfl, rfl, rfl, Below.refl _ _⟩
  case round =>
    obtain ⟨k, hk, rfl, rfl, rfl, hbel⟩ := hrel
    have R1 := hA.below hbel
    by_cases hlt : k < n
    · obtain ⟨p2, p13⟩ := rpF_all k (by omega)
      have hpe := (peN_all k (by omega)).2
      have hpl := plN_le xs k
      have hL9 := rsA_len xs (rpF k)
      have Hs1 : Hid (plN xs (k + 1) = plN xs k * (rpF k - (rsA xs (rpF k)).length)) := rfl
      have Hs2 : Hid (peN (k + 1) = peN k * rpF k) := rfl
      obtain ⟨p, hp⟩ : ∃ p, rpF k = p := ⟨_, rfl⟩
      obtain ⟨L, hL⟩ : ∃ L, (rsA xs p).length = L := ⟨_, rfl⟩
      obtain ⟨a, ha⟩ : ∃ a, plN xs k = a := ⟨_, rfl⟩
      obtain ⟨b, hb⟩ : ∃ b, peN k = b := ⟨_, rfl⟩
      have Hs3 : Hid (plN xs (k + 1) = a * (p - L)) := by show _ = _; rw [Hs1.out, hp, hL, ha]
      have Hs4 : Hid (peN (k + 1) = b * p) := by show _ = _; rw [Hs2.out, hp, hb]
      rw [hp] at p2 p13 hL9
      rw [hL] at hL9
      rw [ha, hb] at hpl
      rw [hb] at hpe
      rw [ha, hb]
      have HL := Lib.hid hL
      have Hp := Lib.hid hp
      clear hL hp ha hb Hs1 Hs2
      have m1 : a * (p - L) ≤ 30030 * 13 := Nat.mul_le_mul (by omega) (by omega)
      have m2 : b * p ≤ 30030 * 13 := Nat.mul_le_mul (by omega) (by omega)
      have hsub : (p : Int) - (L : Int) = ((p - L : Nat) : Int) := by omega
      have e1 : IntKind.i64.wrap ((a : Int) * ((p : Int) - (L : Int))) = ((a * (p - L) : Nat) : Int) := by
        rw [hsub, ← Int.natCast_mul]
        exact IntWalk.i64_in _ (by omega)
      have e2 : IntKind.i64.wrap ((b : Int) * (p : Int)) = ((b * p : Nat) : Int) := by
        rw [← Int.natCast_mul]
        exact IntWalk.i64_in _ (by omega)
      clear hsub m1 m2
      go_wp2_with (go_at_call 78; refine (rePrime_c k _ (by omega)).mono ?_; rw [Hp.out]; rintro e w' ⟨rfl, rfl⟩)
      refine (reRests_c _ _ _ _ xs R1 Hm.out hn Hx.out p p2 p13).mono ?_
      rintro e w3 ⟨⟨v3, rfl, o3⟩, b3⟩
      obtain ⟨A3, c3, rfl⟩ := o3.shape
      rw [HL.out]
      go_wp2_with (go_at_call 78; refine (rePrime_c k _ (by omega)).mono ?_; rw [Hp.out]; rintro e w' ⟨rfl, rfl⟩)
      go_roundw
      case rel => exact ⟨k + 1, by omega, by go_num, by rw [Hs3.out, Int.natCast_mul], by rw [Hs4.out, Int.natCast_mul], hbel.trans (b3.mono hbel.size)⟩
      case measure => simp [intOf]; omega
    · have hkn : k = n := by omega
      subst hkn
      go_wp2
      go_ret2
      exact ⟨rfl, hbel⟩

set_option maxRecDepth 100000 in
set_option maxHeartbeats 800000 in
theorem spec_PlacesInPeriod_c (w : World) (A : Option Addr) (m c : Nat) (xs : List Int) (hA : Il w A xs) (hm : m = xs.length) (hn : m ≤ 1048576) (n : Int) :
    Calls Try.prog 47 #[.slice A m c, .int .i64 n] w fun en w' => en = .returned (.tuple #[.int .i64 (ppV xs n), .bool (akO xs n)]) ∧ Below w.heap.size w w' := by
  have Hm := Lib.hid hm
  clear hm
  cases hg : akO xs n with
  | false =>
    rw [ppV_no hg]
    go_enter Try.func47, Try.ntmps47
    go_wp2_with fail
    refine (reAsked_c _ _ _ _ xs hA Hm.out hn _).mono ?_
    rintro e w1 ⟨rfl, b1⟩
    have hA_1 := hA.below b1
    go_wp2
    go_ret2
    exact ⟨rfl, b1⟩
  | true =>
    obtain ⟨hgp, n0, n6⟩ := akO_parts hg
    obtain ⟨N, rfl⟩ := Int.eq_ofNat_of_zero_le n0
    rw [ppV_yes hg]
    have Hx := Lib.hid (goodP_small hgp)
    have Hg := Lib.hid hg
    go_enter Try.func47, Try.ntmps47
    go_wp2_with fail
    refine (reAsked_c _ _ _ _ xs hA Hm.out hn _).mono ?_
    rintro e w1 ⟨rfl, b1⟩
    have hA_1 := hA.below b1
    go_wp2_with fail
    refine (rePlaces_c _ _ _ _ xs hA_1 Hm.out hn Hx.out N (by omega)).mono ?_
    rintro e w2 ⟨rfl, b2⟩
    have hA_2 := hA_1.below b2
    have bb2 := b1.trans (b2.mono b1.size)
    go_wp2
    go_ret2
    exact ⟨rfl, bb2⟩

/-- Whether n is a place of a pattern for the first K primes. -/
def plcB (xs : List Int) (K : Nat) (n : Int) : Bool := decide (∀ k, k < K → ∀ q, q < xs.length → ¬ (n + ivL xs q) % (rpF k : Int) = 0)
theorem plcB_yes {xs : List Int} {K : Nat} {n : Int} (h : ∀ k, k < K → ∀ q, q < xs.length → ¬ (n + ivL xs q) % (rpF k : Int) = 0) : plcB xs K n = true := decide_eq_true h
theorem plcB_no {xs : List Int} {K k q : Nat} {n : Int} (hk : k < K) (hq : q < xs.length) (h : (n + ivL xs q) % (rpF k : Int) = 0) : plcB xs K n = false := decide_eq_false fun hh => hh k hk q hq h
set_option maxRecDepth 100000 in
set_option maxHeartbeats 800000 in
theorem rePlace_c (w : World) (A : Option Addr) (m c : Nat) (xs : List Int) (hA : Il w A xs) (hm : m = xs.length) (hn : m ≤ 1048576) (hx : ∀ k, k < xs.length → 0 ≤ ivL xs k ∧ ivL xs k ≤ 1000000) (K : Nat) (h6 : K ≤ 6) (n : Int) (n0 : 0 ≤ n) (n9 : n ≤ 1000000000) :
    Calls Try.prog 88 #[.slice A m c, .int .i64 (K : Int), .int .i64 n] w fun en w' => en = .returned (.bool (plcB xs K n)) ∧ w = w' := by
  have Hm := Lib.hid hm
  have Hx := Lib.hid hx
  clear hm hx
  obtain ⟨T, hT⟩ : ∃ T, plcB xs K n = T := ⟨_, rfl⟩
  rw [hT]
  have HT := Lib.hid hT
  clear hT
  go_enter Try.func88, Try.ntmps88
  go_wp2_with fail
  go_loop [7] (fun i => ∃ k : Nat, k ≤ K ∧ i = .int .i64 (k : Int) ∧ (∀ j, j < k → ∀ q, q < xs.length → ¬ (n + ivL xs q) % (rpF j : Int) = 0)) (fun i => K - (intOf i).toNat)
  case atStart => exact ⟨0, Nat.zero_le _, rfl, fun j hj => by omega⟩
  case round =>
    obtain ⟨k, hk, rfl, hall⟩ := hrel
    have Hall := Lib.hid hall
    clear hall
    by_cases hlt : k < K
    · obtain ⟨p2, p13⟩ := rpF_all k (by omega)
      obtain ⟨p, hp⟩ : ∃ p, rpF k = p := ⟨_, rfl⟩
      rw [hp] at p2 p13
      have Hp := Lib.hid hp
      clear hp
      have hz : ((p : Int) == 0) = false := beq_eq_false_iff_ne.2 (by omega)
      go_wp2_with fail
      go_loop [17] (fun j => ∃ q : Nat, q ≤ m ∧ j = .int .i64 (q : Int) ∧ (∀ r, r < q → ¬ (n + ivL xs r) % (p : Int) = 0)) (fun j => m - (intOf j).toNat)
      case atStart => exact ⟨0, Nat.zero_le _, rfl, fun r hr => by omega⟩
      case round =>
        obtain ⟨q, hq, rfl, hal⟩ := hrel
        have Hal := Lib.hid hal
        clear hal
        by_cases hltq : q < m
        · obtain ⟨b, off, rfl, hb, hr⟩ := hA (by have := Hm.out; omega)
          have hcq := hr q (by have := Hm.out; omega)
          have hxq := Hx.out q (by have := Hm.out; omega)
          clear hr
          obtain ⟨x, hxe⟩ : ∃ x, ivL xs q = x := ⟨_, rfl⟩
          rw [hxe] at hcq hxq
          obtain ⟨y, hy⟩ : ∃ y, (n + x) % (p : Int) = y := ⟨_, rfl⟩
          by_cases hy0 : y = 0
          · have Hy : Hid (T = false) := by show _ = _; rw [← HT.out]; exact plcB_no hlt (q := q) (by have := Hm.out; omega) (by rw [hxe, Hp.out, hy]; exact hy0)
            have hyb : (y == 0) = true := beq_iff_eq.2 hy0
            clear hxe hy0
            go_wp2_with (go_at_call 78; refine (rePrime_c k _ (by omega)).mono ?_; rw [Hp.out]; rintro e w' ⟨rfl, rfl⟩)
            go_ret
            exact ⟨by rw [Hy.out]; rfl, rfl⟩
          · have Hal2 := Lib.hid (fun r (hr : r < q + 1) => show ¬ (n + ivL xs r) % (p : Int) = 0 by
              rcases Nat.lt_succ_iff_lt_or_eq.1 hr with h | h
              · exact Hal.out r h
              · rw [h, hxe, hy]; exact hy0)
            have hyb : (y == 0) = false := beq_eq_false_iff_ne.2 hy0
            clear hxe hy0
            go_wp2_with (go_at_call 78; refine (rePrime_c k _ (by omega)).mono ?_; rw [Hp.out]; rintro e w' ⟨rfl, rfl⟩)
            go_round
            case rel => exact ⟨q + 1, by omega, by go_num, Hal2.out⟩
            case measure => simp [intOf]; omega
        · have Hall2 := Lib.hid (fun j (hj : j < k + 1) => show ∀ r, r < xs.length → ¬ (n + ivL xs r) % (rpF j : Int) = 0 by
            rcases Nat.lt_succ_iff_lt_or_eq.1 hj with h | h
            · exact Hall.out j h
            · rw [h, Hp.out]; exact fun r hr => Hal.out r (by have := Hm.out; omega))
          go_wp2
          go_round
          case rel => exact ⟨k + 1, by omega, by go_num, Hall2.out⟩
          case measure => simp [intOf]; omega
    · have Hy : Hid (T = true) := by show _ = _; rw [← HT.out]; exact plcB_yes fun j hj => Hall.out j (by omega)
      go_wp2
      go_ret
      exact ⟨by rw [Hy.out]; rfl, rfl⟩

end Go.Proofs.Ytgnmookklplnmaa
