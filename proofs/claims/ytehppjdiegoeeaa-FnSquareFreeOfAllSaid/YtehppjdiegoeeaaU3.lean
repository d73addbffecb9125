import Derived.Test.YtehppjdiegoeeaaU2
import Derived.Test.YtehppjdiegoeeaaGA
namespace Go.Proofs.Ytehppjdiegoeeaa
open Go.RowKit
set_option linter.unusedVariables false
set_option linter.unusedSimpArgs false

/- Ranks of square-free numbers. -/
def srF : Nat → Nat
  | 0 => 1
  | k + 1 => nsF (srF k + 1)
theorem nsF_ge (n : Nat) : n ≤ nsF n := (nsG_le (100003 - n) n).1
theorem srF_mono (k : Nat) : ∀ d, srF k ≤ srF (k + d)
  | 0 => Nat.le_refl _
  | d + 1 => by
    have h1 := srF_mono k d
    have h2 := nsF_ge (srF (k + d) + 1)
    show _ ≤ nsF (srF (k + d) + 1)
    omega
theorem srF_300 : srF 300 ≤ 600 := by decide +kernel
theorem srF_le {k : Nat} (h : k ≤ 300) : srF k ≤ 600 := by
  have := srF_mono k (300 - k)
  rw [show k + (300 - k) = 300 by omega] at this
  exact Nat.le_trans this srF_300
def rkOk (n : Int) : Bool := inB n 0 300
def rkV (n : Int) : Int := if rkOk n then (srF n.toNat : Int) else 0
theorem rkV_no {n : Int} (h : rkOk n = false) : rkV n = 0 := by rw [rkV, h]; rfl
theorem rkV_yes {n : Nat} (h : rkOk (n : Int) = true) : rkV (n : Int) = (srF n : Int) := by rw [rkV, h, Int.toNat_natCast]; rfl

set_option maxRecDepth 100000 in
set_option maxHeartbeats 400000 in
theorem spec_SquareFreeOfRank_c (w : World) (n : Int) :
    Calls Try.prog 29 #[.int .i64 n] w fun en w' => en = .returned (.tuple #[.int .i64 (rkV n), .bool (rkOk n)]) ∧ Below w.heap.size w w' := by
  cases hg : inB n 0 300 with
  | false =>
    have ho : rkOk n = false := hg
    rw [rkV_no ho, ho]
    clear ho
    go_enter Try.func29, Try.ntmps29
    go_wp2_with fail
    refine (l1In_c _ _ _ _).mono ?_
    rintro e w1 ⟨rfl, rfl⟩
    go_wp2
    go_ret2
    exact ⟨rfl, (Below.refl _ _)⟩
  | true =>
    have ho : rkOk n = true := hg
    obtain ⟨n1, n2⟩ := inB_true.1 hg
    obtain ⟨N, rfl⟩ := Int.eq_ofNat_of_zero_le n1
    rw [rkV_yes ho, ho]
    clear ho
    have N9 : N ≤ 300 := by omega
    clear n1 n2
    have Hg := Lib.hid hg
    go_enter Try.func29, Try.ntmps29
    go_wp2_with fail
    refine (l1In_c _ _ _ _).mono ?_
    rintro e w1 ⟨rfl, rfl⟩
    go_wp2
    go_loopw [0, 4] (fun i v wr => ∃ k j : Nat, j + k = N ∧ i = .int .i64 (k : Int) ∧ v = .int .i64 (srF j : Int) ∧ w = wr) (fun i _ _ => (intOf i).toNat)
    case atStart => exact ⟨N, 0, by omega, rfl, rfl, rfl⟩
    case round =>
      obtain ⟨k, j, hk, rfl, rfl, rfl⟩ := hrel
      have hb := srF_le (k := j) (by omega)
      by_cases hlt : 0 < k
      · obtain ⟨S, hS⟩ : ∃ S, srF j = S := ⟨_, rfl⟩
        have Hst := Lib.hid (show srF (j + 1) = nsF (S + 1) by rw [srF, hS])
        rw [hS] at hb ⊢
        clear hS
        go_wp2_with fail
        refine (sqNext_c _ S (by omega)).mono ?_
        rintro e w1 ⟨rfl, rfl⟩
        go_wp2
        go_roundw
        case rel => exact ⟨k - 1, j + 1, by omega, by go_num, by rw [Hst.out], by first | rfl | trivial⟩
        case measure => simp [intOf]; omega
      · have Hk := Lib.hid (show j = N by omega)
        go_wp2
        go_ret2
        exact ⟨by rw [← Hk.out]; rfl, (Below.refl _ _)⟩

/- The longest run of numbers that are not square-free. -/
/-- The best run, its first number, the run that goes on. -/
def lsS : Nat → Nat × Nat × Nat
  | 0 => (0, 0, 0)
  | k + 1 => if sfB (k + 1) then ((lsS k).1, (lsS k).2.1, 0) else if (lsS k).1 < (lsS k).2.2 + 1 then ((lsS k).2.2 + 1, k + 1 - (lsS k).2.2, (lsS k).2.2 + 1) else ((lsS k).1, (lsS k).2.1, (lsS k).2.2 + 1)
theorem lsS_le : ∀ k, (lsS k).1 ≤ k ∧ (lsS k).2.1 ≤ k ∧ (lsS k).2.2 ≤ k
  | 0 => by simp [lsS]
  | k + 1 => by
    have h := lsS_le k
    rw [lsS]
    split
    · dsimp only; omega
    · split <;> (dsimp only; omega)
theorem lsS_free {k : Nat} (h : sfB (k + 1) = true) : lsS (k + 1) = ((lsS k).1, (lsS k).2.1, 0) := by rw [lsS, if_pos h]
theorem lsS_more {k : Nat} (h : sfB (k + 1) = false) (h2 : (lsS k).1 < (lsS k).2.2 + 1) : lsS (k + 1) = ((lsS k).2.2 + 1, k + 1 - (lsS k).2.2, (lsS k).2.2 + 1) := by rw [lsS, if_neg (by rw [h]; exact Bool.false_ne_true), if_pos h2]
theorem lsS_same {k : Nat} (h : sfB (k + 1) = false) (h2 : ¬ (lsS k).1 < (lsS k).2.2 + 1) : lsS (k + 1) = ((lsS k).1, (lsS k).2.1, (lsS k).2.2 + 1) := by rw [lsS, if_neg (by rw [h]; exact Bool.false_ne_true), if_neg h2]
def lqV (n : Int) : Int := if smOk n then ((lsS n.toNat).1 : Int) else 0
def lfstV (n : Int) : Int := if smOk n then ((lsS n.toNat).2.1 : Int) else 0
theorem lqV_no {n : Int} (h : smOk n = false) : lqV n = 0 := by rw [lqV, h]; rfl
theorem lfstV_no {n : Int} (h : smOk n = false) : lfstV n = 0 := by rw [lfstV, h]; rfl
theorem lqV_yes {n : Nat} (h : smOk (n : Int) = true) : lqV (n : Int) = ((lsS n).1 : Int) := by rw [lqV, h, Int.toNat_natCast]; rfl
theorem lfstV_yes {n : Nat} (h : smOk (n : Int) = true) : lfstV (n : Int) = ((lsS n).2.1 : Int) := by rw [lfstV, h, Int.toNat_natCast]; rfl

set_option maxRecDepth 100000 in
set_option maxHeartbeats 800000 in
theorem spec_LongestSquareful_c (w : World) (n : Int) :
    Calls Try.prog 24 #[.int .i64 n] w fun en w' => en = .returned (.tuple #[.int .i64 (lqV n), .int .i64 (lfstV n), .bool (smOk n)]) ∧ Below w.heap.size w w' := by
  cases hg : inB n 0 600 with
  | false =>
    have ho : smOk n = false := hg
    rw [lqV_no ho, lfstV_no ho, ho]
    clear ho
    go_enter Try.func24, Try.ntmps24
    go_wp2_with fail
    refine (sqMost_c _ _).mono ?_
    rintro e w1 ⟨rfl, rfl⟩
    go_wp2
    go_ret3
    exact ⟨rfl, (Below.refl _ _)⟩
  | true =>
    have ho : smOk n = true := hg
    obtain ⟨n1, n2⟩ := inB_true.1 hg
    obtain ⟨N, rfl⟩ := Int.eq_ofNat_of_zero_le n1
    rw [lqV_yes ho, lfstV_yes ho, ho]
    clear ho
    have N9 : N ≤ 600 := by omega
    clear n1 n2
    have Hg := Lib.hid hg
    go_enter Try.func24, Try.ntmps24
    go_wp2_with fail
    refine (sqMost_c _ _).mono ?_
    rintro e w1 ⟨rfl, rfl⟩
    go_wp2
    go_loopw [5, 6, 7, 8] (fun b f r i wr => ∃ k B F R : Nat, k ≤ N ∧ i = .int .i64 ((k : Int) + 1) ∧ b = .int .i64 (B : Int) ∧ f = .int .i64 (F : Int) ∧ r = .int .i64 (R : Int) ∧ lsS k = (B, F, R) ∧ w = wr) (fun _ _ _ i _ => 603 - (intOf i).toNat)
    case atStart => exact ⟨0, 0, 0, 0, Nat.zero_le _, rfl, rfl, rfl, rfl, rfl, rfl⟩
    case round =>
      obtain ⟨k, B, F, R, hk, rfl, rfl, rfl, rfl, hL, rfl⟩ := hrel
      have hle := lsS_le k
      rw [hL] at hle
      dsimp only at hle
      obtain ⟨l1, l2, l3⟩ := hle
      have HL := Lib.hid hL
      clear hL
      by_cases hlt : k < N
      · have Hc := Lib.hid (fun W => sqPart_c W (k + 1) (by omega) (by omega))
        rw [show ((k + 1 : Nat) : Int) = (k : Int) + 1 by omega] at Hc
        have Hs := Lib.hid (sf_beq (k + 1))
        cases hp : sfB (k + 1) with
        | true =>
          have hbq := Hs.out.trans hp
          have Hst := Lib.hid (lsS_free hp)
          clear hp
          go_wp2_with fail
          refine (Hc.out _).mono ?_
          rintro e w1 ⟨rfl, rfl⟩
          go_wp2
          go_roundw
          case rel => exact ⟨k + 1, B, F, 0, by omega, by go_num, rfl, rfl, rfl, by rw [Hst.out, HL.out], by first | rfl | trivial⟩
          case measure => simp [intOf]; omega
        | false =>
          have hbq := Hs.out.trans hp
          by_cases hm : B < R + 1
          · have Hst := Lib.hid (lsS_more hp (by rw [HL.out]; exact hm))
            clear hp
            go_wp2_with fail
            refine (Hc.out _).mono ?_
            rintro e w1 ⟨rfl, rfl⟩
            go_wp2
            go_roundw
            case rel => exact ⟨k + 1, R + 1, k + 1 - R, R + 1, by omega, by go_num, by go_num, by go_num, by go_num, by rw [Hst.out, HL.out], by first | rfl | trivial⟩
            case measure => simp [intOf]; omega
          · have Hst := Lib.hid (lsS_same hp (by rw [HL.out]; exact hm))
            clear hp
            go_wp2_with fail
            refine (Hc.out _).mono ?_
            rintro e w1 ⟨rfl, rfl⟩
            go_wp2
            go_roundw
            case rel => exact ⟨k + 1, B, F, R + 1, by omega, by go_num, rfl, rfl, by go_num, by rw [Hst.out, HL.out], by first | rfl | trivial⟩
            case measure => simp [intOf]; omega
      · have Hk := Lib.hid (show k = N by omega)
        go_wp2
        go_ret3
        exact ⟨by rw [← Hk.out, HL.out]; rfl, (Below.refl _ _)⟩

/- Sums over divisors. -/
def ca2 (n : Nat) : Nat → Int
  | 0 => 0
  | k + 1 => ca2 n k + (if n % (k + 1) = 0 then (if (k + 1) % 4 = 1 then 4 else if (k + 1) % 4 = 3 then -4 else 0) else 0)
theorem ca2_bound (n : Nat) : ∀ k : Nat, -(4 * (k : Int)) ≤ ca2 n k ∧ ca2 n k ≤ 4 * k
  | 0 => by simp [ca2]
  | k + 1 => by
    have h1 := ca2_bound n k
    rw [ca2]
    split
    · split
      · omega
      · split <;> omega
    · omega
def ca4 (n : Nat) : Nat → Nat
  | 0 => 0
  | k + 1 => ca4 n k + (if n % (k + 1) = 0 ∧ (k + 1) % 4 ≠ 0 then 8 * (k + 1) else 0)
theorem ca4_le (n : Nat) : ∀ k, ca4 n k ≤ 8 * (k * k)
  | 0 => by simp [ca4]
  | k + 1 => by
    have h1 := ca4_le n k
    have h2 : (k + 1) * (k + 1) = k * k + 2 * k + 1 := by rw [Nat.add_mul, Nat.mul_add]; omega
    rw [ca4, h2]
    split <;> omega
def c2V (n : Int) : Int := if sqOk n then ca2 n.toNat n.toNat else 0
theorem c2V_no {n : Int} (h : sqOk n = false) : c2V n = 0 := by rw [c2V, h]; rfl
theorem c2V_yes {n : Nat} (h : sqOk (n : Int) = true) : c2V (n : Int) = ca2 n n := by rw [c2V, h, Int.toNat_natCast]; rfl
def c4V (n : Int) : Int := if sqOk n then (ca4 n.toNat n.toNat : Int) else 0
theorem c4V_no {n : Int} (h : sqOk n = false) : c4V n = 0 := by rw [c4V, h]; rfl
theorem c4V_yes {n : Nat} (h : sqOk (n : Int) = true) : c4V (n : Int) = (ca4 n n : Int) := by rw [c4V, h, Int.toNat_natCast]; rfl




def t3B (n : Nat) : Bool := decide (strR 4 n % 8 ≠ 7)
def t3V (n : Int) : Bool := sqOk n && t3B n.toNat
theorem t3V_no {n : Int} (h : sqOk n = false) : t3V n = false := by rw [t3V, h]; rfl
theorem t3V_yes {n : Nat} (h : sqOk (n : Int) = true) : t3V (n : Int) = t3B n := by rw [t3V, h, Int.toNat_natCast]; rfl


/- Sums of two squares, by factors. -/
def twG (x : Nat × Nat) : Bool := !(x.1 % 4 == 3 && x.2 % 2 == 1)
def sq2B (n : Nat) : Bool := (facs n).all twG
theorem sq2B_hit {n : Nat} (h : 2 ≤ n) : sq2B n = (twG (leastF n, strK (leastF n) n) && sq2B (strR (leastF n) n)) := by rw [sq2B, facs_yes h]; rfl
theorem sq2B_one : sq2B 1 = true := by rw [sq2B, facs_no (by omega)]; rfl
theorem sq2B_last {n d : Nat} (hn : noneB n d) (hd : n < d * d) (h1 : 1 ≤ n) : sq2B n = !(n % 4 == 3) := by
  rcases Nat.lt_or_ge n 2 with h | h
  · have : n = 1 := by omega
    subst this
    rw [sq2B_one]
    rfl
  · have hl := leastF_end hn hd
    obtain ⟨e1, e2⟩ := str_yes h h1 (Nat.mod_self n)
    rw [Nat.div_self h1] at e1 e2
    obtain ⟨e3, e4⟩ := str_no (p := n) (m := 1) (Nat.le_refl _) (by rw [Nat.mod_eq_of_lt (by omega)]; omega)
    rw [e3] at e1
    rw [e4] at e2
    rw [sq2B_hit h, hl, e1, e2, sq2B_one, Bool.and_true, twG]
    simp

end Go.Proofs.Ytehppjdiegoeeaa
