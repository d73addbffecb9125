import Derived.Test.YtgnmookklplnmaaT6
namespace Go.Proofs.Ytgnmookklplnmaa
open Go.RowKit
set_option linter.unusedVariables false
set_option linter.unusedSimpArgs false

theorem primeB_hit {n d : Nat} (h : noneB n d) (h2 : 2 ≤ d) (h3 : d * d ≤ n) (h4 : n % d = 0) : primeB n = false := by
  rw [primeB, leastF_hit h h2 h3 h4, decide_eq_false (p := d = n), Bool.and_false]
  intro he
  have := Nat.mul_le_mul h2 (Nat.le_refl d)
  omega
theorem primeB_end {n d : Nat} (h : noneB n d) (h2 : 2 ≤ n) (h3 : n < d * d) : primeB n = true := by
  rw [primeB_of h2, leastF_end h h3]
  simp

set_option maxRecDepth 100000 in
set_option maxHeartbeats 400000 in
theorem reIsPrime_c (x : Int) (w : World) (h2 : x ≤ 1000000000) :
    Calls Try.prog 92 #[.int .i64 x] w fun e w' => e = .returned (.bool (primeB x.toNat)) ∧ w = w' := by
  by_cases h : 2 ≤ x
  · obtain ⟨n, rfl⟩ := Int.eq_ofNat_of_zero_le (Int.le_trans (by omega) h)
    rw [Int.toNat_natCast]
    go_enter Try.func92, Try.ntmps92
    go_wp2
    go_loop [3] (fun i => ∃ d : Nat, i = .int .i64 (d : Int) ∧ 2 ≤ d ∧ d ≤ 31623 ∧ noneB n d) (fun i => 31624 - (intOf i).toNat)
    case atStart => exact ⟨2, rfl, by omega, by omega, noneB_two n⟩
    case round =>
      obtain ⟨d, rfl, d1, d2, hno⟩ := hrel
      have Hno := Lib.hid hno
      clear hno
      have hs1 : (d : Int) * (d : Int) ≤ 1000014129 := by
        have := Nat.mul_le_mul d2 d2
        have h3 : ((d * d : Nat) : Int) ≤ 1000014129 := by omega
        rwa [Int.natCast_mul] at h3
      have hs0 : 0 ≤ (d : Int) * (d : Int) := Int.mul_nonneg (by omega) (by omega)
      have hz : ((d : Int) == 0) = false := beq_eq_false_iff_ne.2 (by omega)
      by_cases hlt : (d : Int) * (d : Int) ≤ (n : Int)
      · have hlt2 : d * d ≤ n := by have h3 : ((d * d : Nat) : Int) ≤ (n : Int) := by rwa [Int.natCast_mul]
                                    omega
        have hd := sq_le hlt2 (by omega)
        by_cases hm : n % d = 0
        · have Hl := Lib.hid (primeB_hit Hno.out d1 hlt2 hm)
          have hm2 : ((n : Int) % (d : Int) == 0) = true := by rw [← Int.natCast_emod, hm]; rfl
          clear hm hlt2
          go_wp2
          go_ret
          exact ⟨by rw [Hl.out]; rfl, rfl⟩
        · have Hs := Lib.hid (noneB_succ Hno.out hm)
          have hm2 : ((n : Int) % (d : Int) == 0) = false := by rw [← Int.natCast_emod]; exact beq_eq_false_iff_ne.2 (by omega)
          clear hm hlt2
          go_wp2
          go_round
          case rel => exact ⟨d + 1, by go_num, by omega, by omega, Hs.out⟩
          case measure => simp [intOf]; omega
      · have hlt2 : n < d * d := by
          rcases Nat.lt_or_ge n (d * d) with h3 | h3
          · exact h3
          · exact absurd (show (d : Int) * (d : Int) ≤ (n : Int) by rw [← Int.natCast_mul]; omega) hlt
        have Hl := Lib.hid (primeB_end Hno.out (by omega) hlt2)
        clear hlt2
        go_wp2
        go_ret
        exact ⟨by rw [Hl.out]; rfl, rfl⟩
  · rw [primeB_small (by omega)]
    go_enter Try.func92, Try.ntmps92
    go_wp2
    go_ret
    exact ⟨rfl, rfl⟩

/-- Whether n and each of the first q offsets together are primes. -/
def pwF (xs : List Int) (q : Nat) (n : Int) : Bool := (List.range q).all fun j => primeB (n + ivL xs j).toNat
theorem pwF_succ (xs : List Int) (q : Nat) (n : Int) : pwF xs (q + 1) n = (pwF xs q n && primeB (n + ivL xs q).toNat) := by
  rw [pwF, List.range_succ, List.all_append]
  simp [pwF]
def pwO (xs : List Int) (M : Int) : Bool := goodP xs && inB M 0 600
def pwV (xs : List Int) (M : Int) : List Int := if pwO xs M then upF (pwF xs xs.length) M.toNat else []
theorem pwV_no {xs : List Int} {M : Int} (h : pwO xs M = false) : pwV xs M = [] := by rw [pwV, h]; rfl
theorem pwV_yes {xs : List Int} {M : Nat} (h : pwO xs (M : Int) = true) : pwV xs (M : Int) = upF (pwF xs xs.length) M := by rw [pwV, h, Int.toNat_natCast]; rfl
theorem pwV_len (xs : List Int) (M : Int) : (pwV xs M).length ≤ 600 := by
  cases h : pwO xs M with
  | false => rw [pwV_no h]; simp
  | true =>
    have h2 := h
    rw [pwO, Bool.and_eq_true] at h2
    obtain ⟨m0, m6⟩ := inB_true.1 h2.2
    obtain ⟨K, rfl⟩ := Int.eq_ofNat_of_zero_le m0
    rw [pwV_yes h]
    have := upF_len (pwF xs xs.length) K
    omega

set_option maxRecDepth 100000 in
set_option maxHeartbeats 1600000 in
theorem spec_PrimePlaces_c (w : World) (A : Option Addr) (m c : Nat) (xs : List Int) (hA : Il w A xs) (hm : m = xs.length) (hn : m ≤ 1048576) (M : Int) :
    Calls Try.prog 51 #[.slice A m c, .int .i64 M] w fun en w' => (∃ v, en = .returned (.tuple #[v, .bool (pwO xs M)]) ∧ OwnI w' w.heap.size v (pwV xs M)) ∧ Below w.heap.size w w' := by
  have Hm := Lib.hid hm
  clear hm
  cases hg : goodP xs with
  | false =>
    have ho : pwO xs M = false := by simp [pwO, *]
    rw [pwV_no ho, ho]
    clear ho
    go_enter Try.func51, Try.ntmps51
    go_wp2_with fail
    refine (reGood_c _ _ _ _ xs hA Hm.out hn).mono ?_
    rintro e w1 ⟨rfl, b1⟩
    have hA_1 := hA.below b1
    go_wp2
    go_ret2
    exact ⟨⟨_, rfl, OwnI.nil _ _⟩, b1⟩
  | true =>
    cases hk : inB M 0 600 with
    | false =>
      have ho : pwO xs M = false := by simp [pwO, *]
      rw [pwV_no ho, ho]
      clear ho
      go_enter Try.func51, Try.ntmps51
      go_wp2_with fail
      refine (reGood_c _ _ _ _ xs hA Hm.out hn).mono ?_
      rintro e w1 ⟨rfl, b1⟩
      have hA_1 := hA.below b1
      go_wp2_with fail
      refine (l1In_c _ _ _ _).mono ?_
      rintro e w2 ⟨rfl, rfl⟩
      go_wp2
      go_ret2
      exact ⟨⟨_, rfl, OwnI.nil _ _⟩, b1⟩
    | true =>
      have ho : pwO xs M = true := by simp [pwO, *]
      obtain ⟨m0, m6⟩ := inB_true.1 hk
      obtain ⟨K, rfl⟩ := Int.eq_ofNat_of_zero_le m0
      rw [pwV_yes ho, ho]
      clear ho
      have Hx := Lib.hid (goodP_small hg)
      have Hg := Lib.hid hg
      have Hk := Lib.hid hk
      go_enter Try.func51, Try.ntmps51
      go_wp2_with fail
      refine (reGood_c _ _ _ _ xs hA Hm.out hn).mono ?_
      rintro e w1 ⟨rfl, b1⟩
      have hA_1 := hA.below b1
      go_wp2_with fail
      refine (l1In_c _ _ _ _).mono ?_
      rintro e w2 ⟨rfl, rfl⟩
      go_wp2_with fail
      go_loopw [6, 7] (fun v i wr => ∃ k : Nat, k ≤ K ∧ i = .int .i64 ((k : Int) + 1) ∧ OwnI wr w1.heap.size v (upF (pwF xs xs.length) k) ∧ Below w1.heap.size w1 wr) (fun _ i _ => K + 1 - (intOf i).toNat)
      case atStart => exact ⟨0, Nat.zero_le _, rfl, OwnI.nil _ _, Below.refl _ _⟩
      case round =>
        obtain ⟨k, hk, rfl, hown, hbel⟩ := hrel
        have Hown := Lib.hid hown
        clear hown
        have hs := hbel.size
        have R2 := (hA_1).below hbel
        by_cases hlt : k < K
        · have hul := upF_len (pwF xs xs.length) k
          have hki : (k : Int) + 1 ≤ (K : Int) := by omega
          go_wp2_with fail
          go_loop [8, 26] (fun al j => ∃ q : Nat, q ≤ m ∧ j = .int .i64 (q : Int) ∧ al = .bool (pwF xs q ((k : Int) + 1))) (fun _ j => m - (intOf j).toNat)
          case atStart => exact ⟨0, Nat.zero_le _, rfl, rfl⟩
          case round =>
            obtain ⟨q, hq, rfl, rfl⟩ := hrel
            by_cases hltq : q < m
            · obtain ⟨b, off, rfl, hb, hr⟩ := R2 (by have := Hm.out; omega)
              have hcq := hr q (by have := Hm.out; omega)
              have hxq := Hx.out q (by have := Hm.out; omega)
              clear hr
              have Hsu := Lib.hid (pwF_succ xs q ((k : Int) + 1))
              obtain ⟨x, hxe⟩ : ∃ x, ivL xs q = x := ⟨_, rfl⟩
              rw [hxe] at hcq hxq
              obtain ⟨t, ht⟩ : ∃ t, primeB ((k : Int) + 1 + x).toNat = t := ⟨_, rfl⟩
              have Hsu2 : Hid (pwF xs (q + 1) ((k : Int) + 1) = (pwF xs q ((k : Int) + 1) && t)) := by show _ = _; rw [Hsu.out, hxe, ht]
              have Ht := Lib.hid ht
              clear hxe ht
              cases hsv : pwF xs q ((k : Int) + 1) with
              | true =>
                have Hsu3 : Hid (pwF xs (q + 1) ((k : Int) + 1) = t) := by show _ = _; rw [Hsu2.out, hsv]; rfl
                clear hsv
                go_wp2_with (go_at_call 92; refine (reIsPrime_c _ _ (by omega)).mono ?_; rw [Ht.out]; rintro e w' ⟨rfl, rfl⟩)
                go_round
                case rel => exact ⟨q + 1, by omega, by go_num, by rw [Hsu3.out]⟩
                case measure => simp [intOf]; omega
              | false =>
                have Hsu3 : Hid (pwF xs (q + 1) ((k : Int) + 1) = false) := by show _ = _; rw [Hsu2.out, hsv]; rfl
                clear hsv
                go_wp2
                go_round
                case rel => exact ⟨q + 1, by omega, by go_num, by rw [Hsu3.out]⟩
                case measure => simp [intOf]; omega
            · have hqm : q = xs.length := by have := Hm.out; omega
              cases hsv : pwF xs q ((k : Int) + 1) with
              | true =>
                have Hy := Lib.hid (upF_yes (p := pwF xs xs.length) (k := k) (by rw [← hqm]; exact hsv))
                clear hsv hqm
                go_wp2_with (at_builtin; refine wp_app_int _ rfl _ _ rfl w1.heap.size _ _ rfl Hown.out _ rfl (by omega) hs ?_; intro v' w6 hown6 b6)
                go_roundw
                case rel => exact ⟨k + 1, by omega, by go_num, by rw [Hy.out]; exact hown6, hbel.trans b6⟩
                case measure => simp [intOf]; omega
              | false =>
                have Hy := Lib.hid (upF_no (p := pwF xs xs.length) (k := k) (by rw [← hqm]; exact hsv))
                clear hsv hqm
                go_wp2
                go_roundw
                case rel => exact ⟨k + 1, by omega, by go_num, by rw [Hy.out]; exact Hown.out, hbel⟩
                case measure => simp [intOf]; omega
        · have hkK : k = K := by omega
          subst hkK
          go_wp2
          go_ret2
          exact ⟨⟨_, rfl, OwnI.mono Hown.out (b1).size⟩, (b1).trans (hbel.mono (b1).size)⟩

end Go.Proofs.Ytgnmookklplnmaa
