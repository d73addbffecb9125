import Derived.Test.YtehppjdiegoeeaaU3
import Derived.Test.YtehppjdiegoeeaaK1
import Derived.StillTailTactics
namespace Go.Proofs.Ytehppjdiegoeeaa
open Go.RowKit
set_option linter.unusedVariables false
set_option linter.unusedSimpArgs false

def i2V (n : Int) : Bool := sqOk n && sq2B n.toNat
theorem i2V_no {n : Int} (h : sqOk n = false) : i2V n = false := by rw [i2V, h]; rfl
theorem i2V_yes {n : Nat} (h : sqOk (n : Int) = true) : i2V (n : Int) = sq2B n := by rw [i2V, h, Int.toNat_natCast]; rfl


def s2V (n : Int) : List Int := if smOk n then flF sq2B 1 n.toNat else []
theorem s2V_no {n : Int} (h : smOk n = false) : s2V n = [] := by rw [s2V, h]; rfl
theorem s2V_yes {n : Nat} (h : smOk (n : Int) = true) : s2V (n : Int) = flF sq2B 1 n := by rw [s2V, h, Int.toNat_natCast]; rfl
theorem s2V_len (n : Int) : (s2V n).length ≤ 1048576 := by
  cases h : smOk n with
  | false => rw [s2V_no h]; exact Nat.zero_le _
  | true =>
    rw [s2V, h, if_pos rfl]
    have := flF_len sq2B 1 n.toNat
    have := inB_true.1 h
    omega




/-- A callee that leaves the world as it is, called inside a region that draws. -/
theorem qcallQ {P : Program} {f : FuncId} {args : Array Value} {w : World} {n : Nat} {v : Value} (h : Calls P f args (w.drewN n) fun e w' => e = .returned v ∧ w.drewN n = w') :
    Calls P f args (w.drewN n) fun e w'' => e = .returned v ∧ ∃ m, w'' = w.drewN m := h.mono fun _ _ hh => ⟨hh.1, n, hh.2.symm⟩

/- The number of square-free numbers, by signs. -/
def csS (n : Nat) : Nat → Int
  | 0 => 0
  | k + 1 => csS n k + sgF (k + 1) * ((n / ((k + 1) * (k + 1)) : Nat) : Int)
theorem sg_mul (k : Nat) (Q : Nat) : -(Q : Int) ≤ sgF k * (Q : Int) ∧ sgF k * (Q : Int) ≤ Q := by
  have h := sgF_bound k
  rcases (show sgF k = -1 ∨ sgF k = 0 ∨ sgF k = 1 by omega) with e | e | e <;> rw [e] <;> omega
theorem csS_bound (n : Nat) : ∀ k : Nat, -((k * n : Nat) : Int) ≤ csS n k ∧ csS n k ≤ ((k * n : Nat) : Int)
  | 0 => by simp [csS]
  | k + 1 => by
    have h1 := csS_bound n k
    have h2 := sg_mul (k + 1) (n / ((k + 1) * (k + 1)))
    have h3 := Nat.div_le_self n ((k + 1) * (k + 1))
    rw [csS, Nat.succ_mul]
    omega
theorem rtF_lt {n : Nat} (h : n ≤ 200000) : rtF n ≤ 447 := by
  have h1 := (rtF_parts n).1
  have := sq_lt_of (d := rtF n) (n := n) (b := 448) h1 (by omega)
  omega
theorem rtF_more {n k : Nat} (h : (k + 1) * (k + 1) ≤ n) : k + 1 ≤ rtF n := by
  have h1 := (rtF_parts n).2
  rcases Nat.lt_or_ge (rtF n) (k + 1) with h2 | h2
  · have := Nat.mul_le_mul h2 h2
    simp only [Nat.succ_eq_add_one] at this
    omega
  · exact h2
theorem rtF_stop {n k : Nat} (hk : k ≤ rtF n) (h : n < (k + 1) * (k + 1)) : k = rtF n := by
  rcases Nat.lt_or_ge k (rtF n) with h1 | h1
  · have h2 := (rtF_parts n).1
    have := Nat.mul_le_mul h1 h1
    simp only [Nat.succ_eq_add_one] at this
    omega
  · omega
set_option maxRecDepth 100000 in
set_option maxHeartbeats 800000 in
theorem sqCount_c (w : World) (N : Nat) (h1 : 1 ≤ N) (h9 : N ≤ 100000) :
    Calls Try.prog 46 #[.int .i64 (N : Int)] w fun e w' => e = .returned (.int .i64 (csS N (rtF N))) ∧ Below w.heap.size w w' := by
  have hrt := rtF_lt (n := N) (by omega)
  obtain ⟨T, hT⟩ : ∃ T, rtF N = T := ⟨_, rfl⟩
  have HT := Lib.hid hT
  rw [hT] at hrt ⊢
  clear hT
  go_enter Try.func46, Try.ntmps46
  go_wp2
  go_loopw [3, 4] (fun s r wr => ∃ k : Nat, k ≤ T ∧ r = .int .i64 ((k : Int) + 1) ∧ s = .int .i64 (csS N k) ∧ Below w.heap.size w wr) (fun _ i _ => 449 - (intOf i).toNat)
  case atStart => exact ⟨0, Nat.zero_le _, rfl, rfl, Below.refl _ _⟩
  case round =>
    obtain ⟨k, hk, rfl, rfl, hbel⟩ := hrel
    have hbn := csS_bound N k
    have hb9 : k * N ≤ 44700000 := by have := Nat.mul_le_mul (show k ≤ 447 by omega) h9; omega
    obtain ⟨D, hD⟩ : ∃ D, (k + 1) * (k + 1) = D := ⟨_, rfl⟩
    have hDi : ((k : Int) + 1) * ((k : Int) + 1) = (D : Int) := cast_sq hD
    have hD9 : D ≤ 200704 := by have := Nat.mul_le_mul (show k + 1 ≤ 448 by omega) (show k + 1 ≤ 448 by omega); omega
    have hD1 : 1 ≤ D := by have := Nat.mul_le_mul (show 1 ≤ k + 1 by omega) (show 1 ≤ k + 1 by omega); omega
    have hz : ((D : Int) == 0) = false := beq_eq_false_iff_ne.2 (by omega)
    have HD := Lib.hid hD
    have Hst := Lib.hid (show csS N (k + 1) = csS N k + sgF (k + 1) * ((N / D : Nat) : Int) by rw [csS, hD])
    clear hD
    obtain ⟨S, hS⟩ : ∃ S, csS N k = S := ⟨_, rfl⟩
    rw [hS] at hbn Hst ⊢
    have hbS : -44700000 ≤ S ∧ S ≤ 44700000 := by omega
    clear hbn hb9
    have HS := Lib.hid hS
    clear hS
    by_cases hlt : D ≤ N
    · have hk2 : k + 1 ≤ T := by rw [← HT.out]; exact rtF_more (by rw [HD.out]; exact hlt)
      have hq := Nat.div_le_self N D
      obtain ⟨Q, hQ⟩ : ∃ Q, N / D = Q := ⟨_, rfl⟩
      have hQi : (N : Int) / (D : Int) = (Q : Int) := by rw [← hQ, Int.natCast_ediv]
      rw [hQ] at hq Hst
      have hg := sg_mul (k + 1) Q
      have hgb := sgF_bound (k + 1)
      have Hc := Lib.hid (fun W => sqSign_c W (k + 1) (by omega) (by omega))
      rw [show ((k + 1 : Nat) : Int) = (k : Int) + 1 by omega] at Hc
      obtain ⟨G, hG⟩ : ∃ G, sgF (k + 1) = G := ⟨_, rfl⟩
      rw [hG] at hg hgb Hst Hc
      obtain ⟨M, hM⟩ : ∃ M, G * (Q : Int) = M := ⟨_, rfl⟩
      rw [hM] at hg Hst
      clear hG hQ
      go_wp2_with fail
      go_quiet ((go_at_call 44; exact qcallQ (Hc.out _)))
      go_wp2_with fail
      go_roundw
      case rel => exact ⟨k + 1, hk2, by go_num, by rw [Hst.out], hbel.trans ⟨rfl, rfl, rfl, Nat.le_refl _, fun _ _ => rfl⟩⟩
      case measure => simp [intOf]; omega
    · have Hk := Lib.hid (show k = T by rw [← HT.out]; exact rtF_stop (by rw [HT.out]; exact hk) (by rw [HD.out]; omega))
      go_wp2
      go_ret
      exact ⟨by rw [← Hk.out, HS.out]; rfl, hbel⟩
def cqV (n : Int) : Int := if sqOk n then csS n.toNat (rtF n.toNat) else 0
theorem cqV_no {n : Int} (h : sqOk n = false) : cqV n = 0 := by rw [cqV, h]; rfl
theorem cqV_yes {n : Nat} (h : sqOk (n : Int) = true) : cqV (n : Int) = csS n (rtF n) := by rw [cqV, h, Int.toNat_natCast]; rfl

set_option maxRecDepth 100000 in
set_option maxHeartbeats 800000 in
theorem spec_CountSquareFree_c (w : World) (n : Int) :
    Calls Try.prog 16 #[.int .i64 n] w fun en w' => en = .returned (.tuple #[.int .i64 (cqV n), .bool (sqOk n)]) ∧ Below w.heap.size w w' := by
  cases hg : inB n 1 100000 with
  | false =>
    have ho : sqOk n = false := hg
    rw [cqV_no ho, ho]
    clear ho
    go_enter Try.func16, Try.ntmps16
    go_wp2_with fail
    refine (sqGood_c _ _).mono ?_
    rintro e w1 ⟨rfl, rfl⟩
    go_wp2
    go_ret2
    exact ⟨rfl, (Below.refl _ _)⟩
  | true =>
    have ho : sqOk n = true := hg
    obtain ⟨n1, n2⟩ := inB_true.1 hg
    obtain ⟨N, rfl⟩ := Int.eq_ofNat_of_zero_le (Int.le_trans (by omega) n1)
    rw [cqV_yes ho, ho]
    clear ho
    have N1 : 1 ≤ N := by omega
    have N9 : N ≤ 100000 := by omega
    clear n1 n2
    have Hg := Lib.hid hg
    go_enter Try.func16, Try.ntmps16
    go_wp2_with fail
    refine (sqGood_c _ _).mono ?_
    rintro e w1 ⟨rfl, rfl⟩
    go_wp2_with fail
    refine (sqCount_c _ N N1 (by omega)).mono ?_
    rintro e w2 ⟨rfl, b2⟩
    go_wp2
    go_ret2
    exact ⟨rfl, b2⟩

/- Points in a circle. -/
def ccS (n r : Nat) : Nat → Nat
  | 0 => 0
  | k + 1 => ccS n r k + (2 * rtF (n - ((k : Int) - r).natAbs * ((k : Int) - r).natAbs) + 1)
theorem ccS_le (n r : Nat) (h : n ≤ 200000) : ∀ k, ccS n r k ≤ 1000 * k
  | 0 => Nat.le_refl _
  | k + 1 => by
    have h1 := ccS_le n r h k
    have h2 := rtF_lt (n := n - ((k : Int) - r).natAbs * ((k : Int) - r).natAbs) (by omega)
    rw [ccS]
    omega
theorem abs_sq (x : Int) : x * x = ((x.natAbs * x.natAbs : Nat) : Int) := by rw [Int.natCast_mul, Int.natAbs_mul_self']
def ccV (n : Int) : Int := if sqOk n then (ccS n.toNat (rtF n.toNat) (2 * rtF n.toNat + 1) : Int) else 0
theorem ccV_no {n : Int} (h : sqOk n = false) : ccV n = 0 := by rw [ccV, h]; rfl
theorem ccV_yes {n : Nat} (h : sqOk (n : Int) = true) : ccV (n : Int) = (ccS n (rtF n) (2 * rtF n + 1) : Int) := by rw [ccV, h, Int.toNat_natCast]; rfl

end Go.Proofs.Ytehppjdiegoeeaa
