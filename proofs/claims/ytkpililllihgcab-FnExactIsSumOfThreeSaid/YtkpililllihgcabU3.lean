import Derived.Test.YtkpililllihgcabU2
import Derived.Test.YtkpililllihgcabGA
namespace Go.Proofs.Ytkpililllihgcab
open Go.RowKit
set_option linter.unusedVariables false
set_option linter.unusedSimpArgs false

/- Ranks of square-free numbers. -/
def srF : Nat → Nat
  | 0 => 1
  | k + 1 => nsF (srF k + 1)
theorem nsF_ge (n : Nat) : n ≤ nsF n := (nsG_le (100003 - n) n).1
theorem srF_mono (k : Nat) : ∀ d, srF k ≤ srF (k + d)
  | 0 => Nat.le_refl _
  | d + 1 => by
    have h1 := srF_mono k d
    have h2 := nsF_ge (srF (k + d) + 1)
    show _ ≤ nsF (srF (k + d) + 1)
    omega
theorem srF_300 : srF 300 ≤ 600 := by decide +kernel
theorem srF_le {k : Nat} (h : k ≤ 300) : srF k ≤ 600 := by
  have := srF_mono k (300 - k)
  rw [show k + (300 - k) = 300 by omega] at this
  exact Nat.le_trans this srF_300
def rkOk (n : Int) : Bool := inB n 0 300
def rkV (n : Int) : Int := if rkOk n then (srF n.toNat : Int) else 0
theorem rkV_no {n : Int} (h : rkOk n = false) : rkV n = 0 := by rw [rkV, h]; rfl
theorem rkV_yes {n : Nat} (h : rkOk (n : Int) = true) : rkV (n : Int) = (srF n : Int) := by rw [rkV, h, Int.toNat_natCast]; rfl


/- The longest run of numbers that are not square-free. -/
/-- The best run, its first number, the run that goes on. -/
def lsS : Nat → Nat × Nat × Nat
  | 0 => (0, 0, 0)
  | k + 1 => if sfB (k + 1) then ((lsS k).1, (lsS k).2.1, 0) else if (lsS k).1 < (lsS k).2.2 + 1 then ((lsS k).2.2 + 1, k + 1 - (lsS k).2.2, (lsS k).2.2 + 1) else ((lsS k).1, (lsS k).2.1, (lsS k).2.2 + 1)
theorem lsS_le : ∀ k, (lsS k).1 ≤ k ∧ (lsS k).2.1 ≤ k ∧ (lsS k).2.2 ≤ k
  | 0 => by simp [lsS]
  | k + 1 => by
    have h := lsS_le k
    rw [lsS]
    split
    · dsimp only; omega
    · split <;> (dsimp only; omega)
theorem lsS_free {k : Nat} (h : sfB (k + 1) = true) : lsS (k + 1) = ((lsS k).1, (lsS k).2.1, 0) := by rw [lsS, if_pos h]
theorem lsS_more {k : Nat} (h : sfB (k + 1) = false) (h2 : (lsS k).1 < (lsS k).2.2 + 1) : lsS (k + 1) = ((lsS k).2.2 + 1, k + 1 - (lsS k).2.2, (lsS k).2.2 + 1) := by rw [lsS, if_neg (by rw [h]; exact Bool.false_ne_true), if_pos h2]
theorem lsS_same {k : Nat} (h : sfB (k + 1) = false) (h2 : ¬ (lsS k).1 < (lsS k).2.2 + 1) : lsS (k + 1) = ((lsS k).1, (lsS k).2.1, (lsS k).2.2 + 1) := by rw [lsS, if_neg (by rw [h]; exact Bool.false_ne_true), if_neg h2]
def lqV (n : Int) : Int := if smOk n then ((lsS n.toNat).1 : Int) else 0
def lfstV (n : Int) : Int := if smOk n then ((lsS n.toNat).2.1 : Int) else 0
theorem lqV_no {n : Int} (h : smOk n = false) : lqV n = 0 := by rw [lqV, h]; rfl
theorem lfstV_no {n : Int} (h : smOk n = false) : lfstV n = 0 := by rw [lfstV, h]; rfl
theorem lqV_yes {n : Nat} (h : smOk (n : Int) = true) : lqV (n : Int) = ((lsS n).1 : Int) := by rw [lqV, h, Int.toNat_natCast]; rfl
theorem lfstV_yes {n : Nat} (h : smOk (n : Int) = true) : lfstV (n : Int) = ((lsS n).2.1 : Int) := by rw [lfstV, h, Int.toNat_natCast]; rfl


/- Sums over divisors. -/
def ca2 (n : Nat) : Nat → Int
  | 0 => 0
  | k + 1 => ca2 n k + (if n % (k + 1) = 0 then (if (k + 1) % 4 = 1 then 4 else if (k + 1) % 4 = 3 then -4 else 0) else 0)
theorem ca2_bound (n : Nat) : ∀ k : Nat, -(4 * (k : Int)) ≤ ca2 n k ∧ ca2 n k ≤ 4 * k
  | 0 => by simp [ca2]
  | k + 1 => by
    have h1 := ca2_bound n k
    rw [ca2]
    split
    · split
      · omega
      · split <;> omega
    · omega
def ca4 (n : Nat) : Nat → Nat
  | 0 => 0
  | k + 1 => ca4 n k + (if n % (k + 1) = 0 ∧ (k + 1) % 4 ≠ 0 then 8 * (k + 1) else 0)
theorem ca4_le (n : Nat) : ∀ k, ca4 n k ≤ 8 * (k * k)
  | 0 => by simp [ca4]
  | k + 1 => by
    have h1 := ca4_le n k
    have h2 : (k + 1) * (k + 1) = k * k + 2 * k + 1 := by rw [Nat.add_mul, Nat.mul_add]; omega
    rw [ca4, h2]
    split <;> omega
def c2V (n : Int) : Int := if sqOk n then ca2 n.toNat n.toNat else 0
theorem c2V_no {n : Int} (h : sqOk n = false) : c2V n = 0 := by rw [c2V, h]; rfl
theorem c2V_yes {n : Nat} (h : sqOk (n : Int) = true) : c2V (n : Int) = ca2 n n := by rw [c2V, h, Int.toNat_natCast]; rfl
def c4V (n : Int) : Int := if sqOk n then (ca4 n.toNat n.toNat : Int) else 0
theorem c4V_no {n : Int} (h : sqOk n = false) : c4V n = 0 := by rw [c4V, h]; rfl
theorem c4V_yes {n : Nat} (h : sqOk (n : Int) = true) : c4V (n : Int) = (ca4 n n : Int) := by rw [c4V, h, Int.toNat_natCast]; rfl

set_option maxRecDepth 100000 in
set_option maxHeartbeats 800000 in
theorem spec_CountAsTwo_c (w : World) (n : Int) :
    Calls Try.prog 30 #[.int .i64 n] w fun en w' => en = .returned (.tuple #[.int .i64 (c2V n), .bool (sqOk n)]) ∧ Below w.heap.size w w' := by
  cases hg : inB n 1 100000 with
  | false =>
    have ho : sqOk n = false := hg
    rw [c2V_no ho, ho]
    clear ho
    go_enter Try.func30, Try.ntmps30
    go_wp2_with fail
    refine (sqGood_c _ _).mono ?_
    rintro e w1 ⟨rfl, rfl⟩
    go_wp2
    go_ret2
    exact ⟨rfl, (Below.refl _ _)⟩
  | true =>
    have ho : sqOk n = true := hg
    obtain ⟨n1, n2⟩ := inB_true.1 hg
    obtain ⟨N, rfl⟩ := Int.eq_ofNat_of_zero_le (Int.le_trans (by omega) n1)
    rw [c2V_yes ho, ho]
    clear ho
    have N1 : 1 ≤ N := by omega
    have N9 : N ≤ 100000 := by omega
    clear n1 n2
    have Hg := Lib.hid hg
    go_enter Try.func30, Try.ntmps30
    go_wp2_with fail
    refine (sqGood_c _ _).mono ?_
    rintro e w1 ⟨rfl, rfl⟩
    go_wp2
    go_loopw [4, 5] (fun c d wr => ∃ k : Nat, k ≤ N ∧ d = .int .i64 ((k : Int) + 1) ∧ c = .int .i64 (ca2 N k) ∧ w = wr) (fun _ d _ => 100003 - (intOf d).toNat)
    case atStart => exact ⟨0, Nat.zero_le _, rfl, rfl, rfl⟩
    case round =>
      obtain ⟨k, hk, rfl, rfl, rfl⟩ := hrel
      have hb := ca2_bound N k
      obtain ⟨S, hS⟩ : ∃ S, ca2 N k = S := ⟨_, rfl⟩
      have HSt := Lib.hid (show ca2 N (k + 1) = _ from rfl)
      rw [hS] at hb ⊢
      have HS := Lib.hid hS
      clear hS
      have hz : (((k : Int) + 1) == 0) = false := beq_eq_false_iff_ne.2 (by omega)
      by_cases hlt : k < N
      ·
        by_cases hm : N % (k + 1) = 0
        · have hm2 : ((N : Int) % ((k : Int) + 1) == 0) = true := by rw [show (k : Int) + 1 = ((k + 1 : Nat) : Int) by omega, ← Int.natCast_emod, hm]; rfl
          by_cases h1 : (k + 1) % 4 = 1
          · have e1 : (((k : Int) + 1) % 4 == 1) = true := by rw [beq_iff_eq]; omega
            have He := Lib.hid (show ca2 N (k + 1) = S + 4 by rw [ca2, if_pos hm, if_pos h1, HS.out])
            clear hm h1 HSt
            go_wp2
            go_roundw
            case rel => exact ⟨k + 1, by omega, by go_num, by rw [He.out], by first | rfl | trivial⟩
            case measure => simp [intOf]; omega
          · have e1 : (((k : Int) + 1) % 4 == 1) = false := beq_eq_false_iff_ne.2 (by omega)
            by_cases h3 : (k + 1) % 4 = 3
            · have e3 : (((k : Int) + 1) % 4 == 3) = true := by rw [beq_iff_eq]; omega
              have He := Lib.hid (show ca2 N (k + 1) = S - 4 by rw [ca2, if_pos hm, if_neg h1, if_pos h3, HS.out]; rfl)
              clear hm h1 h3 HSt
              go_wp2
              go_roundw
              case rel => exact ⟨k + 1, by omega, by go_num, by rw [He.out], by first | rfl | trivial⟩
              case measure => simp [intOf]; omega
            · have e3 : (((k : Int) + 1) % 4 == 3) = false := beq_eq_false_iff_ne.2 (by omega)
              have He := Lib.hid (show ca2 N (k + 1) = S by rw [ca2, if_pos hm, if_neg h1, if_neg h3, HS.out, Int.add_zero])
              clear hm h1 h3 HSt
              go_wp2
              go_roundw
              case rel => exact ⟨k + 1, by omega, by go_num, by rw [He.out], by first | rfl | trivial⟩
              case measure => simp [intOf]; omega
        · have hm2 : ((N : Int) % ((k : Int) + 1) == 0) = false := by rw [show (k : Int) + 1 = ((k + 1 : Nat) : Int) by omega, ← Int.natCast_emod]; exact beq_eq_false_iff_ne.2 (by omega)
          have He := Lib.hid (show ca2 N (k + 1) = S by rw [ca2, if_neg hm, HS.out, Int.add_zero])
          clear hm HSt
          go_wp2
          go_roundw
          case rel => exact ⟨k + 1, by omega, by go_num, by rw [He.out], by first | rfl | trivial⟩
          case measure => simp [intOf]; omega
      · have HE := Lib.hid (show ca2 N N = S by have h := HS.out; rw [show k = N by omega] at h; exact h)
        go_wp2
        go_ret2
        exact ⟨by rw [HE.out]; rfl, (Below.refl _ _)⟩

set_option maxRecDepth 100000 in
set_option maxHeartbeats 800000 in
theorem spec_CountAsFour_c (w : World) (n : Int) :
    Calls Try.prog 36 #[.int .i64 n] w fun en w' => en = .returned (.tuple #[.int .i64 (c4V n), .bool (sqOk n)]) ∧ Below w.heap.size w w' := by
  cases hg : inB n 1 100000 with
  | false =>
    have ho : sqOk n = false := hg
    rw [c4V_no ho, ho]
    clear ho
    go_enter Try.func36, Try.ntmps36
    go_wp2_with fail
    refine (sqGood_c _ _).mono ?_
    rintro e w1 ⟨rfl, rfl⟩
    go_wp2
    go_ret2
    exact ⟨rfl, (Below.refl _ _)⟩
  | true =>
    have ho : sqOk n = true := hg
    obtain ⟨n1, n2⟩ := inB_true.1 hg
    obtain ⟨N, rfl⟩ := Int.eq_ofNat_of_zero_le (Int.le_trans (by omega) n1)
    rw [c4V_yes ho, ho]
    clear ho
    have N1 : 1 ≤ N := by omega
    have N9 : N ≤ 100000 := by omega
    clear n1 n2
    have Hg := Lib.hid hg
    go_enter Try.func36, Try.ntmps36
    go_wp2_with fail
    refine (sqGood_c _ _).mono ?_
    rintro e w1 ⟨rfl, rfl⟩
    go_wp2
    go_loopw [4, 5] (fun c d wr => ∃ k : Nat, k ≤ N ∧ d = .int .i64 ((k : Int) + 1) ∧ c = .int .i64 ((ca4 N k : Int)) ∧ w = wr) (fun _ d _ => 100003 - (intOf d).toNat)
    case atStart => exact ⟨0, Nat.zero_le _, rfl, rfl, rfl⟩
    case round =>
      obtain ⟨k, hk, rfl, rfl, rfl⟩ := hrel
      have hb := (show ca4 N k ≤ 80000000000 by have h1 := ca4_le N k; have h2 := Nat.mul_le_mul (show k ≤ 100000 by omega) (show k ≤ 100000 by omega); omega)
      obtain ⟨S, hS⟩ : ∃ S, ca4 N k = S := ⟨_, rfl⟩
      have HSt := Lib.hid (show ca4 N (k + 1) = _ from rfl)
      rw [hS] at hb ⊢
      have HS := Lib.hid hS
      clear hS
      have hz : (((k : Int) + 1) == 0) = false := beq_eq_false_iff_ne.2 (by omega)
      by_cases hlt : k < N
      ·
        by_cases hm : N % (k + 1) = 0
        · have hm2 : ((N : Int) % ((k : Int) + 1) == 0) = true := by rw [show (k : Int) + 1 = ((k + 1 : Nat) : Int) by omega, ← Int.natCast_emod, hm]; rfl
          by_cases h1 : (k + 1) % 4 = 0
          · have e1 : (((k : Int) + 1) % 4 == 0) = true := by rw [beq_iff_eq]; omega
            have He := Lib.hid (show ca4 N (k + 1) = S by rw [ca4, if_neg (fun h => h.2 h1), HS.out, Nat.add_zero])
            clear hm h1 HSt
            go_wp2
            go_roundw
            case rel => exact ⟨k + 1, by omega, by go_num, by rw [He.out], by first | rfl | trivial⟩
            case measure => simp [intOf]; omega
          · have e1 : (((k : Int) + 1) % 4 == 0) = false := beq_eq_false_iff_ne.2 (by omega)
            have He := Lib.hid (show ca4 N (k + 1) = S + 8 * (k + 1) by rw [ca4, if_pos ⟨hm, h1⟩, HS.out])
            clear hm h1 HSt
            go_wp2
            go_roundw
            case rel => exact ⟨k + 1, by omega, by go_num, by rw [He.out]; go_num, by first | rfl | trivial⟩
            case measure => simp [intOf]; omega
        · have hm2 : ((N : Int) % ((k : Int) + 1) == 0) = false := by rw [show (k : Int) + 1 = ((k + 1 : Nat) : Int) by omega, ← Int.natCast_emod]; exact beq_eq_false_iff_ne.2 (by omega)
          have He := Lib.hid (show ca4 N (k + 1) = S by rw [ca4, if_neg (fun h => hm h.1), HS.out, Nat.add_zero])
          clear hm HSt
          go_wp2
          go_roundw
          case rel => exact ⟨k + 1, by omega, by go_num, by rw [He.out], by first | rfl | trivial⟩
          case measure => simp [intOf]; omega
      · have HE := Lib.hid (show ca4 N N = S by have h := HS.out; rw [show k = N by omega] at h; exact h)
        go_wp2
        go_ret2
        exact ⟨by rw [HE.out]; rfl, (Below.refl _ _)⟩


def t3B (n : Nat) : Bool := decide (strR 4 n % 8 ≠ 7)
def t3V (n : Int) : Bool := sqOk n && t3B n.toNat
theorem t3V_no {n : Int} (h : sqOk n = false) : t3V n = false := by rw [t3V, h]; rfl
theorem t3V_yes {n : Nat} (h : sqOk (n : Int) = true) : t3V (n : Int) = t3B n := by rw [t3V, h, Int.toNat_natCast]; rfl

set_option maxRecDepth 100000 in
set_option maxHeartbeats 800000 in
theorem spec_IsSumOfThree_c (w : World) (n : Int) :
    Calls Try.prog 34 #[.int .i64 n] w fun en w' => en = .returned (.tuple #[.bool (t3V n), .bool (sqOk n)]) ∧ Below w.heap.size w w' := by
  cases hg : inB n 1 100000 with
  | false =>
    have ho : sqOk n = false := hg
    rw [t3V_no ho, ho]
    clear ho
    go_enter Try.func34, Try.ntmps34
    go_wp2_with fail
    refine (sqGood_c _ _).mono ?_
    rintro e w1 ⟨rfl, rfl⟩
    go_wp2
    go_ret2
    exact ⟨rfl, (Below.refl _ _)⟩
  | true =>
    have ho : sqOk n = true := hg
    obtain ⟨n1, n2⟩ := inB_true.1 hg
    obtain ⟨N, rfl⟩ := Int.eq_ofNat_of_zero_le (Int.le_trans (by omega) n1)
    rw [t3V_yes ho, ho]
    clear ho
    have N1 : 1 ≤ N := by omega
    have N9 : N ≤ 100000 := by omega
    clear n1 n2
    have Hg := Lib.hid hg
    go_enter Try.func34, Try.ntmps34
    go_wp2_with fail
    refine (sqGood_c _ _).mono ?_
    rintro e w1 ⟨rfl, rfl⟩
    go_wp2
    go_loopw [0] (fun i wr => ∃ y : Nat, i = .int .i64 (y : Int) ∧ 1 ≤ y ∧ y ≤ N ∧ strR 4 y = strR 4 N ∧ w = wr) (fun i _ => (intOf i).toNat)
    case atStart => exact ⟨N, rfl, N1, Nat.le_refl _, rfl, rfl⟩
    case round =>
      obtain ⟨y, rfl, hy1, hyx, hr, rfl⟩ := hrel
      by_cases hm : y % 4 = 0
      · obtain ⟨e1, e2⟩ := str_yes (p := 4) (by omega) hy1 hm
        have hm2 : ((y : Int) % 4 == 0) = true := by rw [beq_iff_eq]; omega
        obtain ⟨Y, hY⟩ : ∃ Y, y / 4 = Y := ⟨_, rfl⟩
        rw [hY] at e2
        have hYi : (y : Int) / 4 = (Y : Int) := by omega
        have hY1 : 1 ≤ Y := by omega
        have hY2 : Y < y := by omega
        have He := Lib.hid (e2.symm.trans hr)
        clear hr hm hY e1 e2
        go_wp2_with fail
        go_roundw
        case rel => exact ⟨Y, rfl, hY1, by omega, He.out, by first | rfl | trivial⟩
        case measure => simp [intOf]; omega
      · obtain ⟨e1, e2⟩ := str_no (p := 4) hy1 hm
        have hm2 : ((y : Int) % 4 == 0) = false := beq_eq_false_iff_ne.2 (by omega)
        have Hb : Hid (t3B N = !((y : Int) % 8 == 7)) := by
          show _ = _
          rw [t3B, ← hr, e2, Bool.eq_iff_iff]
          simp
          omega
        clear hr hm e1 e2
        go_wp2
        go_ret2
        exact ⟨by rw [Hb.out]; rfl, (Below.refl _ _)⟩

/- Sums of two squares, by factors. -/
def twG (x : Nat × Nat) : Bool := !(x.1 % 4 == 3 && x.2 % 2 == 1)
def sq2B (n : Nat) : Bool := (facs n).all twG
theorem sq2B_hit {n : Nat} (h : 2 ≤ n) : sq2B n = (twG (leastF n, strK (leastF n) n) && sq2B (strR (leastF n) n)) := by rw [sq2B, facs_yes h]; rfl
theorem sq2B_one : sq2B 1 = true := by rw [sq2B, facs_no (by omega)]; rfl
theorem sq2B_last {n d : Nat} (hn : noneB n d) (hd : n < d * d) (h1 : 1 ≤ n) : sq2B n = !(n % 4 == 3) := by
  rcases Nat.lt_or_ge n 2 with h | h
  · have : n = 1 := by omega
    subst this
    rw [sq2B_one]
    rfl
  · have hl := leastF_end hn hd
    obtain ⟨e1, e2⟩ := str_yes h h1 (Nat.mod_self n)
    rw [Nat.div_self h1] at e1 e2
    obtain ⟨e3, e4⟩ := str_no (p := n) (m := 1) (Nat.le_refl _) (by rw [Nat.mod_eq_of_lt (by omega)]; omega)
    rw [e3] at e1
    rw [e4] at e2
    rw [sq2B_hit h, hl, e1, e2, sq2B_one, Bool.and_true, twG]
    simp

end Go.Proofs.Ytkpililllihgcab
