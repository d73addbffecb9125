import Derived.Test.YtgnmookklplnmaaV2
import Derived.Test.YtgnmookklplnmaaT5
namespace Go.Proofs.Ytgnmookklplnmaa
open Go.RowKit
set_option linter.unusedVariables false
set_option linter.unusedSimpArgs false

set_option maxRecDepth 100000 in
set_option maxHeartbeats 800000 in
theorem placesAndPeriod_c (w : World) (A : Option Addr) (m c : Nat) (xs : List Int) (hA : Il w A xs) (hm : m = xs.length) (hn : m ≤ 1048576) (hx : ∀ k, k < xs.length → -1000000 ≤ ivL xs k ∧ ivL xs k ≤ 1000000) (n : Nat) (h6 : n ≤ 6) :
    Calls Try.prog 87 #[.slice A m c, .int .i64 (n : Int)] w fun en w' => en = .returned (.tuple #[.int .i64 (plN xs n : Int), .int .i64 (peN n : Int)]) ∧ Below w.heap.size w w' := by
  have Hm := Lib.hid hm
  have Hx := Lib.hid hx
  have Hfp := Lib.hid (firstPrimes_c w n (by omega))
  clear hm hx
  go_enter Try.func87, Try.ntmps87
  go_wp2_with fail
  refine Hfp.out.mono ?_
  rintro e w1 ⟨⟨g, c1, rfl, hg1, hg2, hc⟩, b1⟩
  have Hc := Lib.hid hc
  have hR1 := hA.below b1
  clear hc Hfp
  go_wp2
  go_loopw [6, 7, 13] (fun a b i wr => ∃ k : Nat, k ≤ n ∧ i = .int .i64 (k : Int) ∧ a = .int .i64 (plN xs k : Int) ∧ b = .int .i64 (peN k : Int) ∧ Below w1.heap.size w1 wr) (fun _ _ i _ => n - (intOf i).toNat)
  case atStart => exact ⟨0, Nat.zero_le _, rfl, rfl, rfl, Below.refl _ _⟩
  case round =>
    obtain ⟨k, hk, rfl, rfl, rfl, hbel⟩ := hrel
    have R2 := hR1.below hbel
    have hs := hbel.size
    by_cases hlt : k < n
    · have hck := (hbel.cell (p := ⟨g, k, none⟩) hg2).trans (Hc.out k hlt)
      rw [pr9_at (by omega)] at hck
      obtain ⟨p2, p13⟩ := rpF_all k (by omega)
      have hp1 := peN_all k (by omega)
      have hp2 := plN_le xs k
      have hrl := rsA_len xs (rpF k)
      have hY1 : plN xs (k + 1) = plN xs k * (rpF k - (rsA xs (rpF k)).length) := rfl
      have hY2 : peN (k + 1) = peN k * rpF k := rfl
      obtain ⟨p, hp⟩ : ∃ p, rpF k = p := ⟨_, rfl⟩
      obtain ⟨Z, hZ⟩ : ∃ Z, (rsA xs (rpF k)).length = Z := ⟨_, rfl⟩
      obtain ⟨a, ha⟩ : ∃ a, plN xs k = a := ⟨_, rfl⟩
      obtain ⟨b, hb⟩ : ∃ b, peN k = b := ⟨_, rfl⟩
      rw [hZ] at hY1 hrl
      rw [hp] at hY1 hY2 p2 p13 hrl hck hZ
      rw [ha] at hY1 hp2 ⊢
      rw [hb] at hY2 hp1 hp2 ⊢
      have HZ := Lib.hid hZ
      have HY1 := Lib.hid hY1
      have HY2 := Lib.hid hY2
      clear hp hZ ha hb hY1 hY2
      have t0 : ((p - Z : Nat) : Int) = (p : Int) - (Z : Int) := by omega
      have t1 : (a : Int) * ((p : Int) - (Z : Int)) = ((a * (p - Z) : Nat) : Int) := by rw [← t0, Int.natCast_mul]
      have t2 : (b : Int) * (p : Int) = ((b * p : Nat) : Int) := (Int.natCast_mul _ _).symm
      have u1 : a * (p - Z) ≤ 30030 * 13 := Nat.mul_le_mul (by omega) (by omega)
      have u2 : b * p ≤ 30030 * 13 := Nat.mul_le_mul (by omega) (by omega)
      have e1 : IntKind.i64.wrap ((a : Int) * ((p : Int) - (Z : Int))) = ((a * (p - Z) : Nat) : Int) := by rw [t1]; exact IntWalk.i64_in _ (by omega)
      have e2 : IntKind.i64.wrap ((b : Int) * (p : Int)) = ((b * p : Nat) : Int) := by rw [t2]; exact IntWalk.i64_in _ (by omega)
      clear t0 t1 t2 u1 u2
      go_wp2_with fail
      refine (restsOf_c _ _ _ _ xs R2 Hm.out hn Hx.out p p2 p13).mono ?_
      rintro e w3 ⟨⟨v3, rfl, o3⟩, b3⟩
      obtain ⟨A3, c3, rfl⟩ := o3.shape
      rw [HZ.out]
      clear o3
      go_wp2
      go_roundw
      case rel => exact ⟨k + 1, by omega, by go_num, by rw [HY1.out, Int.natCast_mul], by rw [HY2.out, Int.natCast_mul], hbel.trans (b3.mono hs)⟩
      case measure => simp [intOf]; omega
    · have hkn : k = n := by omega
      go_wp2
      go_ret2
      exact ⟨by rw [← hkn]; rfl, b1.trans (hbel.mono b1.size)⟩

set_option maxRecDepth 100000 in
set_option maxHeartbeats 800000 in
theorem impl_PlacesInPeriod_c (w : World) (A : Option Addr) (m c : Nat) (xs : List Int) (hA : Il w A xs) (hm : m = xs.length) (hn : m ≤ 1048576) (n : Int) :
    Calls Try.prog 48 #[.slice A m c, .int .i64 n] w fun en w' => en = .returned (.tuple #[.int .i64 (ppV xs n), .bool (akO xs n)]) ∧ Below w.heap.size w w' := by
  have Hm := Lib.hid hm
  clear hm
  cases hg : goodP xs with
  | false =>
    have ho : akO xs n = false := by simp [akO, *]
    rw [ppV_no ho, ho]
    clear ho
    go_enter Try.func48, Try.ntmps48
    go_wp2_with fail
    refine (implIsPattern_c _ _ _ _ xs hA Hm.out hn).mono ?_
    rintro e w1 ⟨rfl, b1⟩
    have hA_1 := hA.below b1
    go_wp2
    go_ret2
    exact ⟨rfl, b1⟩
  | true =>
    cases hk : inB n 0 6 with
    | false =>
      have ho : akO xs n = false := by simp [akO, *]
      rw [ppV_no ho, ho]
      clear ho
      go_enter Try.func48, Try.ntmps48
      go_wp2_with fail
      refine (implIsPattern_c _ _ _ _ xs hA Hm.out hn).mono ?_
      rintro e w1 ⟨rfl, b1⟩
      have hA_1 := hA.below b1
      go_wp2_with fail
      refine (isCountTold_c _ _).mono ?_
      rintro e w2 ⟨rfl, rfl⟩
      go_wp2
      go_ret2
      exact ⟨rfl, b1⟩
    | true =>
      have ho : akO xs n = true := by simp [akO, *]
      obtain ⟨n0, n6⟩ := inB_true.1 hk
      obtain ⟨N, rfl⟩ := Int.eq_ofNat_of_zero_le n0
      rw [ppV_yes ho, ho]
      clear ho
      have Hx := Lib.hid (fun k hk => show -1000000 ≤ ivL xs k ∧ ivL xs k ≤ 1000000 by have := goodP_small hg k hk; omega)
      have Hg := Lib.hid hg
      have Hk := Lib.hid hk
      go_enter Try.func48, Try.ntmps48
      go_wp2_with fail
      refine (implIsPattern_c _ _ _ _ xs hA Hm.out hn).mono ?_
      rintro e w1 ⟨rfl, b1⟩
      have hA_1 := hA.below b1
      go_wp2_with fail
      refine (isCountTold_c _ _).mono ?_
      rintro e w2 ⟨rfl, rfl⟩
      go_wp2_with fail
      refine (placesAndPeriod_c _ _ _ _ xs hA_1 Hm.out hn Hx.out N (by omega)).mono ?_
      rintro e w3 ⟨rfl, b3⟩
      have hA_3 := hA_1.below b3
      have bb3 := b1.trans (b3.mono b1.size)
      go_wp2
      go_ret2
      exact ⟨rfl, bb3⟩

set_option maxRecDepth 100000 in
set_option maxHeartbeats 800000 in
theorem impl_ShareOfPlaces_c (w : World) (A : Option Addr) (m c : Nat) (xs : List Int) (hA : Il w A xs) (hm : m = xs.length) (hn : m ≤ 1048576) (n : Int) :
    Calls Try.prog 60 #[.slice A m c, .int .i64 n] w fun en w' => en = .returned (.tuple #[.int .i64 (shV xs n).1, .int .i64 (shV xs n).2, .bool (akO xs n)]) ∧ Below w.heap.size w w' := by
  have Hm := Lib.hid hm
  clear hm
  cases hg : goodP xs with
  | false =>
    have ho : akO xs n = false := by simp [akO, *]
    rw [shV_no ho, ho]
    clear ho
    go_enter Try.func60, Try.ntmps60
    go_wp2_with fail
    refine (implIsPattern_c _ _ _ _ xs hA Hm.out hn).mono ?_
    rintro e w1 ⟨rfl, b1⟩
    have hA_1 := hA.below b1
    go_wp2
    go_ret3
    exact ⟨rfl, b1⟩
  | true =>
    cases hk : inB n 0 6 with
    | false =>
      have ho : akO xs n = false := by simp [akO, *]
      rw [shV_no ho, ho]
      clear ho
      go_enter Try.func60, Try.ntmps60
      go_wp2_with fail
      refine (implIsPattern_c _ _ _ _ xs hA Hm.out hn).mono ?_
      rintro e w1 ⟨rfl, b1⟩
      have hA_1 := hA.below b1
      go_wp2_with fail
      refine (isCountTold_c _ _).mono ?_
      rintro e w2 ⟨rfl, rfl⟩
      go_wp2
      go_ret3
      exact ⟨rfl, b1⟩
    | true =>
      have ho : akO xs n = true := by simp [akO, *]
      obtain ⟨n0, n6⟩ := inB_true.1 hk
      obtain ⟨N, rfl⟩ := Int.eq_ofNat_of_zero_le n0
      rw [shV_yes ho, ho]
      clear ho
      have Hx := Lib.hid (fun k hk => show -1000000 ≤ ivL xs k ∧ ivL xs k ≤ 1000000 by have := goodP_small hg k hk; omega)
      have hp1 := peN_all N (by omega)
      have hp2 := plN_le xs N
      have Hc := Lib.hid (placesAndPeriod_c (xs := xs) (n := N) (m := m) (c := c) (A := A))
      obtain ⟨a, ha⟩ : ∃ a, plN xs N = a := ⟨_, rfl⟩
      obtain ⟨p, hp⟩ : ∃ p, peN N = p := ⟨_, rfl⟩
      rw [ha, hp] at hp2
      rw [hp] at hp1
      rw [ha, hp]
      have Ha := Lib.hid ha
      have Hp := Lib.hid hp
      clear ha hp
      obtain ⟨g, hgd⟩ : ∃ g, gcdF (a : Int) (p : Int) = g := ⟨_, rfl⟩
      have g1 := gcdF_pos2 (a : Int) (p : Int) (by omega)
      have g2 := gcdF_le2 (a : Int) (p : Int) (by omega)
      rw [hgd] at g1 g2 ⊢
      have Hgd := Lib.hid hgd
      clear hgd
      have hz : (g == 0) = false := beq_eq_false_iff_ne.2 (by omega)
      have q1 : 0 ≤ (a : Int) / g := Int.ediv_nonneg (by omega) (by omega)
      have q2 : (a : Int) / g ≤ (a : Int) := Int.ediv_le_self _ (by omega)
      have q3 : 0 ≤ (p : Int) / g := Int.ediv_nonneg (by omega) (by omega)
      have q4 : (p : Int) / g ≤ (p : Int) := Int.ediv_le_self _ (by omega)
      have Hg := Lib.hid hg
      have Hk := Lib.hid hk
      go_enter Try.func60, Try.ntmps60
      go_wp2_with fail
      refine (implIsPattern_c _ _ _ _ xs hA Hm.out hn).mono ?_
      rintro e w1 ⟨rfl, b1⟩
      have hA_1 := hA.below b1
      go_wp2_with fail
      refine (isCountTold_c _ _).mono ?_
      rintro e w2 ⟨rfl, rfl⟩
      go_wp2_with fail
      refine (Hc.out _ hA_1 Hm.out hn Hx.out (by omega)).mono ?_
      rw [Ha.out, Hp.out]
      rintro e w3 ⟨rfl, b3⟩
      go_wp2_with fail
      refine (gcd_c _ _ _ (by omega) (by omega) (by omega) (by omega)).mono ?_
      rw [Hgd.out]
      rintro e w4 ⟨rfl, d, rfl⟩
      go_wp2_with fail
      go_quiet (fail)
      go_wp2
      go_ret3
      exact ⟨rfl, below_drewN (below_drewN ((b1).trans (b3.mono (b1).size)) _) _⟩

end Go.Proofs.Ytgnmookklplnmaa
