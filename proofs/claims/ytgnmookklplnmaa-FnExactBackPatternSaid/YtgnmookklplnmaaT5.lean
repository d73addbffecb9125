import Derived.Test.YtgnmookklplnmaaT4
import Derived.Test.YtgnmookklplnmaaB5
import Derived.Test.YtgnmookklplnmaaM1
namespace Go.Proofs.Ytgnmookklplnmaa
open Go.RowKit
set_option linter.unusedVariables false
set_option linter.unusedSimpArgs false

def fpO (xs : List Int) (n M : Int) : Bool := akO xs n && inB M 0 600
def fpV (xs : List Int) (n M : Int) : List Int := if fpO xs n M then upF (plcB xs n.toNat) M.toNat else []
theorem fpV_no {xs : List Int} {n M : Int} (h : fpO xs n M = false) : fpV xs n M = [] := by rw [fpV, h]; rfl
theorem fpV_yes {xs : List Int} {n M : Nat} (h : fpO xs (n : Int) (M : Int) = true) : fpV xs (n : Int) (M : Int) = upF (plcB xs n) M := by rw [fpV, h, Int.toNat_natCast, Int.toNat_natCast]; rfl
theorem fpV_len (xs : List Int) (n M : Int) : (fpV xs n M).length ≤ 600 := by
  cases h : fpO xs n M with
  | false => rw [fpV_no h]; simp
  | true =>
    have h2 := h
    rw [fpO, Bool.and_eq_true] at h2
    obtain ⟨_, n0, _⟩ := akO_parts h2.1
    obtain ⟨m0, m6⟩ := inB_true.1 h2.2
    obtain ⟨N, rfl⟩ := Int.eq_ofNat_of_zero_le n0
    obtain ⟨K, rfl⟩ := Int.eq_ofNat_of_zero_le m0
    rw [fpV_yes h]
    have := upF_len (plcB xs N) K
    omega
/-- The share of places in lowest terms. -/
def shV (xs : List Int) (n : Int) : Int × Int := if akO xs n then ((plN xs n.toNat : Int) / gcdF (plN xs n.toNat : Int) (peN n.toNat : Int), (peN n.toNat : Int) / gcdF (plN xs n.toNat : Int) (peN n.toNat : Int)) else (0, 0)
theorem shV_no {xs : List Int} {n : Int} (h : akO xs n = false) : shV xs n = (0, 0) := by rw [shV, h]; rfl
theorem shV_yes {xs : List Int} {n : Nat} (h : akO xs (n : Int) = true) : shV xs (n : Int) = ((plN xs n : Int) / gcdF (plN xs n : Int) (peN n : Int), (peN n : Int) / gcdF (plN xs n : Int) (peN n : Int)) := by rw [shV, h, Int.toNat_natCast]; rfl
theorem gcdF_pos2 (a b : Int) (hb : 1 ≤ b) : 1 ≤ gcdF a b := by
  have : 0 < Nat.gcd a.toNat b.toNat := Nat.gcd_pos_of_pos_right _ (by omega)
  unfold gcdF; omega
theorem gcdF_le2 (a b : Int) (hb : 1 ≤ b) : gcdF a b ≤ b := by
  have : Nat.gcd a.toNat b.toNat ≤ b.toNat := Nat.gcd_le_right _ (by omega)
  unfold gcdF; omega

set_option maxRecDepth 100000 in
set_option maxHeartbeats 800000 in
theorem spec_FirstPlaces_c (w : World) (A : Option Addr) (m c : Nat) (xs : List Int) (hA : Il w A xs) (hm : m = xs.length) (hn : m ≤ 1048576) (n M : Int) :
    Calls Try.prog 49 #[.slice A m c, .int .i64 n, .int .i64 M] w fun en w' => (∃ v, en = .returned (.tuple #[v, .bool (fpO xs n M)]) ∧ OwnI w' w.heap.size v (fpV xs n M)) ∧ Below w.heap.size w w' := by
  have Hm := Lib.hid hm
  clear hm
  cases hg : akO xs n with
  | false =>
    have ho : fpO xs n M = false := by simp [fpO, *]
    rw [fpV_no ho, ho]
    clear ho
    go_enter Try.func49, Try.ntmps49
    go_wp2_with fail
    refine (reAsked_c _ _ _ _ xs hA Hm.out hn _).mono ?_
    rintro e w1 ⟨rfl, b1⟩
    have hA_1 := hA.below b1
    go_wp2
    go_ret2
    exact ⟨⟨_, rfl, OwnI.nil _ _⟩, b1⟩
  | true =>
    cases hk : inB M 0 600 with
    | false =>
      have ho : fpO xs n M = false := by simp [fpO, *]
      rw [fpV_no ho, ho]
      clear ho
      go_enter Try.func49, Try.ntmps49
      go_wp2_with fail
      refine (reAsked_c _ _ _ _ xs hA Hm.out hn _).mono ?_
      rintro e w1 ⟨rfl, b1⟩
      have hA_1 := hA.below b1
      go_wp2_with fail
      refine (l1In_c _ _ _ _).mono ?_
      rintro e w2 ⟨rfl, rfl⟩
      go_wp2
      go_ret2
      exact ⟨⟨_, rfl, OwnI.nil _ _⟩, b1⟩
    | true =>
      have ho : fpO xs n M = true := by simp [fpO, *]
      obtain ⟨hgp, n0, n6⟩ := akO_parts hg
      obtain ⟨m0, m6⟩ := inB_true.1 hk
      obtain ⟨N, rfl⟩ := Int.eq_ofNat_of_zero_le n0
      obtain ⟨K, rfl⟩ := Int.eq_ofNat_of_zero_le m0
      rw [fpV_yes ho, ho]
      clear ho
      have Hx := Lib.hid (goodP_small hgp)
      have Hg := Lib.hid hg
      have Hk := Lib.hid hk
      go_enter Try.func49, Try.ntmps49
      go_wp2_with fail
      refine (reAsked_c _ _ _ _ xs hA Hm.out hn _).mono ?_
      rintro e w1 ⟨rfl, b1⟩
      have hA_1 := hA.below b1
      go_wp2_with fail
      refine (l1In_c _ _ _ _).mono ?_
      rintro e w2 ⟨rfl, rfl⟩
      go_wp2_with fail
      go_loopw [8, 9] (fun v i wr => ∃ k : Nat, k ≤ K ∧ i = .int .i64 ((k : Int) + 1) ∧ OwnI wr w1.heap.size v (upF (plcB xs N) k) ∧ Below w1.heap.size w1 wr) (fun _ i _ => K + 1 - (intOf i).toNat)
      case atStart => exact ⟨0, Nat.zero_le _, rfl, OwnI.nil _ _, Below.refl _ _⟩
      case round =>
        obtain ⟨k, hk, rfl, hown, hbel⟩ := hrel
        have Hown := Lib.hid hown
        clear hown
        have hs := hbel.size
        have R2 := (hA_1).below hbel
        by_cases hlt : k < K
        · have hul := upF_len (plcB xs N) k
          cases hl : plcB xs N ((k : Int) + 1) with
          | true =>
            have Hy := Lib.hid (upF_yes hl)
            go_wp2_with fail
            refine (rePlace_c _ _ _ _ xs R2 Hm.out hn Hx.out N (by omega) _ (by omega) (by omega)).mono ?_
            rw [hl]
            rintro e w5 ⟨rfl, rfl⟩
            clear hl
            go_wp2_with (at_builtin; refine wp_app_int _ rfl _ _ rfl w1.heap.size _ _ rfl Hown.out _ rfl (by omega) hs ?_; intro v' w6 hown6 b6)
            go_roundw
            case rel => exact ⟨k + 1, by omega, by go_num, by rw [Hy.out]; exact hown6, hbel.trans b6⟩
            case measure => simp [intOf]; omega
          | false =>
            have Hy := Lib.hid (upF_no hl)
            go_wp2_with fail
            refine (rePlace_c _ _ _ _ xs R2 Hm.out hn Hx.out N (by omega) _ (by omega) (by omega)).mono ?_
            rw [hl]
            rintro e w5 ⟨rfl, rfl⟩
            clear hl
            go_wp2
            go_roundw
            case rel => exact ⟨k + 1, by omega, by go_num, by rw [Hy.out]; exact Hown.out, hbel⟩
            case measure => simp [intOf]; omega
        · have hkK : k = K := by omega
          subst hkK
          go_wp2
          go_ret2
          exact ⟨⟨_, rfl, OwnI.mono Hown.out (b1).size⟩, (b1).trans (hbel.mono (b1).size)⟩

set_option maxRecDepth 100000 in
set_option maxHeartbeats 800000 in
theorem spec_ShareOfPlaces_c (w : World) (A : Option Addr) (m c : Nat) (xs : List Int) (hA : Il w A xs) (hm : m = xs.length) (hn : m ≤ 1048576) (n : Int) :
    Calls Try.prog 59 #[.slice A m c, .int .i64 n] w fun en w' => en = .returned (.tuple #[.int .i64 (shV xs n).1, .int .i64 (shV xs n).2, .bool (akO xs n)]) ∧ Below w.heap.size w w' := by
  have Hm := Lib.hid hm
  clear hm
  cases hg : akO xs n with
  | false =>
    rw [shV_no hg]
    go_enter Try.func59, Try.ntmps59
    go_wp2_with fail
    refine (reAsked_c _ _ _ _ xs hA Hm.out hn _).mono ?_
    rintro e w1 ⟨rfl, b1⟩
    have hA_1 := hA.below b1
    go_wp2
    go_ret3
    exact ⟨rfl, b1⟩
  | true =>
    obtain ⟨hgp, n0, n6⟩ := akO_parts hg
    obtain ⟨N, rfl⟩ := Int.eq_ofNat_of_zero_le n0
    rw [shV_yes hg]
    have Hx := Lib.hid (goodP_small hgp)
    have hp1 := peN_all N (by omega)
    have hp2 := plN_le xs N
    have Hc := Lib.hid (rePlaces_c (xs := xs) (n := N) (m := m) (c := c) (A := A))
    obtain ⟨a, ha⟩ : ∃ a, plN xs N = a := ⟨_, rfl⟩
    obtain ⟨p, hp⟩ : ∃ p, peN N = p := ⟨_, rfl⟩
    rw [ha, hp] at hp2
    rw [hp] at hp1
    rw [ha, hp]
    have Ha := Lib.hid ha
    have Hp := Lib.hid hp
    clear ha hp
    obtain ⟨g, hgd⟩ : ∃ g, gcdF (a : Int) (p : Int) = g := ⟨_, rfl⟩
    have g1 := gcdF_pos2 (a : Int) (p : Int) (by omega)
    have g2 := gcdF_le2 (a : Int) (p : Int) (by omega)
    rw [hgd] at g1 g2 ⊢
    have Hgd := Lib.hid hgd
    clear hgd
    have hz : (g == 0) = false := beq_eq_false_iff_ne.2 (by omega)
    have q1 : 0 ≤ (a : Int) / g := Int.ediv_nonneg (by omega) (by omega)
    have q2 : (a : Int) / g ≤ (a : Int) := Int.ediv_le_self _ (by omega)
    have q3 : 0 ≤ (p : Int) / g := Int.ediv_nonneg (by omega) (by omega)
    have q4 : (p : Int) / g ≤ (p : Int) := Int.ediv_le_self _ (by omega)
    have Hg := Lib.hid hg
    go_enter Try.func59, Try.ntmps59
    go_wp2_with fail
    refine (reAsked_c _ _ _ _ xs hA Hm.out hn _).mono ?_
    rintro e w1 ⟨rfl, b1⟩
    have hA_1 := hA.below b1
    go_wp2_with fail
    refine (Hc.out _ hA_1 Hm.out hn Hx.out (by omega)).mono ?_
    rw [Ha.out, Hp.out]
    rintro e w3 ⟨rfl, b3⟩
    go_wp2_with fail
    refine (siCommon_c _ _ _ (by omega) (by omega) (by omega) (by omega)).mono ?_
    rw [Hgd.out]
    rintro e w4 ⟨rfl, d, rfl⟩
    go_wp2_with fail
    go_quiet (fail)
    go_wp2
    go_ret3
    exact ⟨rfl, below_drewN (below_drewN ((b1).trans (b3.mono (b1).size)) _) _⟩

end Go.Proofs.Ytgnmookklplnmaa
