import Derived.Test.YtkpililllihgcabU3
import Derived.Test.YtkpililllihgcabK1
import Derived.StillTailTactics
namespace Go.Proofs.Ytkpililllihgcab
open Go.RowKit
set_option linter.unusedVariables false
set_option linter.unusedSimpArgs false

set_option maxRecDepth 100000 in
set_option maxHeartbeats 800000 in
theorem sqTwo_c (w : World) (N : Nat) (h1 : 1 ≤ N) (h9 : N ≤ 200000) :
    Calls Try.prog 61 #[.int .i64 (N : Int)] w fun e w' => e = .returned (.bool (sq2B N)) ∧ w = w' := by
  go_enter Try.func61, Try.ntmps61
  go_wp2
  go_loop [0, 3] (fun i r => ∃ x d : Nat, i = .int .i64 (x : Int) ∧ r = .int .i64 (d : Int) ∧ 2 ≤ d ∧ d ≤ 448 ∧ 1 ≤ x ∧ x ≤ N ∧ noneB x d ∧ sq2B N = sq2B x) (fun _ i => 449 - (intOf i).toNat)
  case atStart => exact ⟨N, 2, rfl, rfl, Nat.le_refl _, by omega, h1, Nat.le_refl _, noneB_two N, rfl⟩
  case round =>
    obtain ⟨x, d, rfl, rfl, hd2, hd, hx1, hxN, hno, hB⟩ := hrel
    obtain ⟨D, hD⟩ : ∃ D, d * d = D := ⟨_, rfl⟩
    have hDi := cast_sq hD
    have hD9 : D ≤ 200704 := by have := Nat.mul_le_mul hd hd; omega
    have hD1 : 4 ≤ D := by have := Nat.mul_le_mul hd2 hd2; omega
    have hz : ((d : Int) == 0) = false := beq_eq_false_iff_ne.2 (by omega)
    have HN := Lib.hid hno
    have HB := Lib.hid hB
    have HD := Lib.hid hD
    clear hno hB hD
    by_cases hlt : D ≤ x
    · have hd9 := sq_lt_of (d := d) (n := x) (b := 448) (by rw [HD.out]; exact hlt) (by omega)
      obtain ⟨K, hK⟩ : ∃ K, strK d x = K := ⟨_, rfl⟩
      obtain ⟨R, hR⟩ : ∃ R, strR d x = R := ⟨_, rfl⟩
      obtain ⟨f1, f2, f3, f4⟩ := str_facts hd2 x hx1
      rw [hR] at f1 f2 f3
      have hKl : K ≤ x := by
        have h2 : strK d x < 2 ^ strK d x := Nat.lt_two_pow_self
        have h3 : 2 ^ strK d x ≤ d ^ strK d x := Nat.pow_le_pow_left hd2 _
        have h4 := Nat.le_mul_of_pos_right (d ^ strK d x) (show 0 < strR d x by rw [hR]; exact f1)
        rw [← f4, hK] at h4
        rw [hK] at h2 h3
        omega
      have HR := Lib.hid hR
      have HK := Lib.hid hK
      have Hf3 := Lib.hid f3
      have Hnx : Hid (noneB R (d + 1)) := Lib.hid (noneB_succ (fun q h3 h4 h5 => HN.out q h3 h4 (by rw [f4, hR, Nat.mul_mod, h5, Nat.mul_zero, Nat.zero_mod])) f3)
      have Hstep : Hid (sq2B x = (twG (d, K) && sq2B R)) := by
        show _ = _
        by_cases hm : x % d = 0
        · have hl := leastF_hit HN.out hd2 (by rw [HD.out]; exact hlt) hm
          have hx2 : 2 ≤ x := by omega
          rw [sq2B_hit hx2, hl, HK.out, HR.out]
        · obtain ⟨e1, e2⟩ := str_no (p := d) hx1 hm
          have hk0 : K = 0 := by rw [← HK.out]; exact e1
          have hrx : R = x := by rw [← HR.out]; exact e2
          rw [hk0, hrx]
          simp [twG]
      clear hK hR f3 f4
      go_wp2_with fail
      go_loop [0, 4] (fun i t => ∃ y j : Nat, i = .int .i64 (y : Int) ∧ t = .int .i64 (j : Int) ∧ 1 ≤ y ∧ y ≤ x ∧ strK d y + j = K ∧ strR d y = R) (fun i _ => (intOf i).toNat)
      case atStart => exact ⟨x, 0, rfl, rfl, hx1, Nat.le_refl _, HK.out, HR.out⟩
      case round =>
        obtain ⟨y, j, rfl, rfl, hy1, hyx, hk, hr⟩ := hrel
        by_cases hm : y % d = 0
        · obtain ⟨e1, e2⟩ := str_yes hd2 hy1 hm
          have hlt3 : y / d < y := Nat.div_lt_self hy1 (by omega)
          have hps := div_pos_of hd2 hy1 hm
          have hm2 : ((y : Int) % (d : Int) == 0) = true := by rw [← Int.natCast_emod, hm]; rfl
          have hjK : j + 1 ≤ K := by omega
          have Hk := Lib.hid (show strK d (y / d) + (j + 1) = K by omega)
          have He := Lib.hid (e2.symm.trans hr)
          obtain ⟨Y, hY⟩ : ∃ Y, y / d = Y := ⟨_, rfl⟩
          rw [hY] at hlt3 hps Hk He
          have hYi : (y : Int) / (d : Int) = (Y : Int) := by rw [← hY, Int.natCast_ediv]
          clear hr hm hY e1 e2 hk
          go_wp2_with fail
          go_round
          case rel => exact ⟨Y, j + 1, rfl, by go_num, hps, by omega, Hk.out, He.out⟩
          case measure => simp [intOf]; omega
        · obtain ⟨e1, e2⟩ := str_no (p := d) hy1 hm
          have hjK : j = K := by omega
          have hyR : y = R := by omega
          subst hjK hyR
          have hm2 : ((y : Int) % (d : Int) == 0) = false := by rw [← Int.natCast_emod]; exact beq_eq_false_iff_ne.2 (by omega)
          clear hr hm e1 e2 hk
          by_cases t1 : d % 4 = 3
          · have e1 : ((d : Int) % 4 == 3) = true := by rw [beq_iff_eq]; omega
            by_cases t2 : j % 2 = 1
            · have e2 : ((j : Int) % 2 == 1) = true := by rw [beq_iff_eq]; omega
              have Hf : Hid (sq2B N = false) := by
                show _ = _
                rw [HB.out, Hstep.out, twG]
                simp [t1, t2]
              clear t1 t2
              go_wp2
              go_ret
              exact ⟨by rw [Hf.out]; rfl, rfl⟩
            · have e2 : ((j : Int) % 2 == 1) = false := beq_eq_false_iff_ne.2 (by omega)
              have Hf := Lib.hid (show sq2B N = sq2B y by rw [HB.out, Hstep.out, twG]; simp [t1, t2])
              clear t1 t2
              go_wp2
              go_round
              case rel => exact ⟨y, d + 1, rfl, by go_num, by omega, by omega, hy1, by omega, Hnx.out, Hf.out⟩
              case measure => simp [intOf]; omega
          · have e1 : ((d : Int) % 4 == 3) = false := beq_eq_false_iff_ne.2 (by omega)
            have Hf := Lib.hid (show sq2B N = sq2B y by rw [HB.out, Hstep.out, twG]; simp [t1])
            clear t1
            go_wp2
            go_round
            case rel => exact ⟨y, d + 1, rfl, by go_num, by omega, by omega, hy1, by omega, Hnx.out, Hf.out⟩
            case measure => simp [intOf]; omega
    · have HT := Lib.hid (HB.out.trans (sq2B_last HN.out (by rw [HD.out]; omega) hx1))
      have HF : Hid (sq2B N = ((x : Int) % 4 != 3)) := by
        show _ = _
        rw [HT.out, Bool.eq_iff_iff]
        simp
        omega
      go_wp2
      go_ret
      exact ⟨by rw [HF.out]; rfl, rfl⟩
def i2V (n : Int) : Bool := sqOk n && sq2B n.toNat
theorem i2V_no {n : Int} (h : sqOk n = false) : i2V n = false := by rw [i2V, h]; rfl
theorem i2V_yes {n : Nat} (h : sqOk (n : Int) = true) : i2V (n : Int) = sq2B n := by rw [i2V, h, Int.toNat_natCast]; rfl

set_option maxRecDepth 100000 in
set_option maxHeartbeats 800000 in
theorem spec_IsSumOfTwo_c (w : World) (n : Int) :
    Calls Try.prog 32 #[.int .i64 n] w fun en w' => en = .returned (.tuple #[.bool (i2V n), .bool (sqOk n)]) ∧ Below w.heap.size w w' := by
  cases hg : inB n 1 100000 with
  | false =>
    have ho : sqOk n = false := hg
    rw [i2V_no ho, ho]
    clear ho
    go_enter Try.func32, Try.ntmps32
    go_wp2_with fail
    refine (sqGood_c _ _).mono ?_
    rintro e w1 ⟨rfl, rfl⟩
    go_wp2
    go_ret2
    exact ⟨rfl, (Below.refl _ _)⟩
  | true =>
    have ho : sqOk n = true := hg
    obtain ⟨n1, n2⟩ := inB_true.1 hg
    obtain ⟨N, rfl⟩ := Int.eq_ofNat_of_zero_le (Int.le_trans (by omega) n1)
    rw [i2V_yes ho, ho]
    clear ho
    have N1 : 1 ≤ N := by omega
    have N9 : N ≤ 100000 := by omega
    clear n1 n2
    have Hg := Lib.hid hg
    go_enter Try.func32, Try.ntmps32
    go_wp2_with fail
    refine (sqGood_c _ _).mono ?_
    rintro e w1 ⟨rfl, rfl⟩
    go_wp2_with fail
    refine (sqTwo_c _ N N1 (by omega)).mono ?_
    rintro e w2 ⟨rfl, rfl⟩
    go_wp2
    go_ret2
    exact ⟨rfl, (Below.refl _ _)⟩

def s2V (n : Int) : List Int := if smOk n then flF sq2B 1 n.toNat else []
theorem s2V_no {n : Int} (h : smOk n = false) : s2V n = [] := by rw [s2V, h]; rfl
theorem s2V_yes {n : Nat} (h : smOk (n : Int) = true) : s2V (n : Int) = flF sq2B 1 n := by rw [s2V, h, Int.toNat_natCast]; rfl
theorem s2V_len (n : Int) : (s2V n).length ≤ 1048576 := by
  cases h : smOk n with
  | false => rw [s2V_no h]; exact Nat.zero_le _
  | true =>
    rw [s2V, h, if_pos rfl]
    have := flF_len sq2B 1 n.toNat
    have := inB_true.1 h
    omega




/-- A callee that leaves the world as it is, called inside a region that draws. -/
theorem qcallQ {P : Program} {f : FuncId} {args : Array Value} {w : World} {n : Nat} {v : Value} (h : Calls P f args (w.drewN n) fun e w' => e = .returned v ∧ w.drewN n = w') :
    Calls P f args (w.drewN n) fun e w'' => e = .returned v ∧ ∃ m, w'' = w.drewN m := h.mono fun _ _ hh => ⟨hh.1, n, hh.2.symm⟩

/- The number of square-free numbers, by signs. -/
def csS (n : Nat) : Nat → Int
  | 0 => 0
  | k + 1 => csS n k + sgF (k + 1) * ((n / ((k + 1) * (k + 1)) : Nat) : Int)
theorem sg_mul (k : Nat) (Q : Nat) : -(Q : Int) ≤ sgF k * (Q : Int) ∧ sgF k * (Q : Int) ≤ Q := by
  have h := sgF_bound k
  rcases (show sgF k = -1 ∨ sgF k = 0 ∨ sgF k = 1 by omega) with e | e | e <;> rw [e] <;> omega
theorem csS_bound (n : Nat) : ∀ k : Nat, -((k * n : Nat) : Int) ≤ csS n k ∧ csS n k ≤ ((k * n : Nat) : Int)
  | 0 => by simp [csS]
  | k + 1 => by
    have h1 := csS_bound n k
    have h2 := sg_mul (k + 1) (n / ((k + 1) * (k + 1)))
    have h3 := Nat.div_le_self n ((k + 1) * (k + 1))
    rw [csS, Nat.succ_mul]
    omega
theorem rtF_lt {n : Nat} (h : n ≤ 200000) : rtF n ≤ 447 := by
  have h1 := (rtF_parts n).1
  have := sq_lt_of (d := rtF n) (n := n) (b := 448) h1 (by omega)
  omega
theorem rtF_more {n k : Nat} (h : (k + 1) * (k + 1) ≤ n) : k + 1 ≤ rtF n := by
  have h1 := (rtF_parts n).2
  rcases Nat.lt_or_ge (rtF n) (k + 1) with h2 | h2
  · have := Nat.mul_le_mul h2 h2
    simp only [Nat.succ_eq_add_one] at this
    omega
  · exact h2
theorem rtF_stop {n k : Nat} (hk : k ≤ rtF n) (h : n < (k + 1) * (k + 1)) : k = rtF n := by
  rcases Nat.lt_or_ge k (rtF n) with h1 | h1
  · have h2 := (rtF_parts n).1
    have := Nat.mul_le_mul h1 h1
    simp only [Nat.succ_eq_add_one] at this
    omega
  · omega
set_option maxRecDepth 100000 in
set_option maxHeartbeats 800000 in
theorem sqCount_c (w : World) (N : Nat) (h1 : 1 ≤ N) (h9 : N ≤ 100000) :
    Calls Try.prog 50 #[.int .i64 (N : Int)] w fun e w' => e = .returned (.int .i64 (csS N (rtF N))) ∧ Below w.heap.size w w' := by
  have hrt := rtF_lt (n := N) (by omega)
  obtain ⟨T, hT⟩ : ∃ T, rtF N = T := ⟨_, rfl⟩
  have HT := Lib.hid hT
  rw [hT] at hrt ⊢
  clear hT
  go_enter Try.func50, Try.ntmps50
  go_wp2
  go_loopw [3, 4] (fun s r wr => ∃ k : Nat, k ≤ T ∧ r = .int .i64 ((k : Int) + 1) ∧ s = .int .i64 (csS N k) ∧ Below w.heap.size w wr) (fun _ i _ => 449 - (intOf i).toNat)
  case atStart => exact ⟨0, Nat.zero_le _, rfl, rfl, Below.refl _ _⟩
  case round =>
    obtain ⟨k, hk, rfl, rfl, hbel⟩ := hrel
    have hbn := csS_bound N k
    have hb9 : k * N ≤ 44700000 := by have := Nat.mul_le_mul (show k ≤ 447 by omega) h9; omega
    obtain ⟨D, hD⟩ : ∃ D, (k + 1) * (k + 1) = D := ⟨_, rfl⟩
    have hDi : ((k : Int) + 1) * ((k : Int) + 1) = (D : Int) := cast_sq hD
    have hD9 : D ≤ 200704 := by have := Nat.mul_le_mul (show k + 1 ≤ 448 by omega) (show k + 1 ≤ 448 by omega); omega
    have hD1 : 1 ≤ D := by have := Nat.mul_le_mul (show 1 ≤ k + 1 by omega) (show 1 ≤ k + 1 by omega); omega
    have hz : ((D : Int) == 0) = false := beq_eq_false_iff_ne.2 (by omega)
    have HD := Lib.hid hD
    have Hst := Lib.hid (show csS N (k + 1) = csS N k + sgF (k + 1) * ((N / D : Nat) : Int) by rw [csS, hD])
    clear hD
    obtain ⟨S, hS⟩ : ∃ S, csS N k = S := ⟨_, rfl⟩
    rw [hS] at hbn Hst ⊢
    have hbS : -44700000 ≤ S ∧ S ≤ 44700000 := by omega
    clear hbn hb9
    have HS := Lib.hid hS
    clear hS
    by_cases hlt : D ≤ N
    · have hk2 : k + 1 ≤ T := by rw [← HT.out]; exact rtF_more (by rw [HD.out]; exact hlt)
      have hq := Nat.div_le_self N D
      obtain ⟨Q, hQ⟩ : ∃ Q, N / D = Q := ⟨_, rfl⟩
      have hQi : (N : Int) / (D : Int) = (Q : Int) := by rw [← hQ, Int.natCast_ediv]
      rw [hQ] at hq Hst
      have hg := sg_mul (k + 1) Q
      have hgb := sgF_bound (k + 1)
      have Hc := Lib.hid (fun W => sqSign_c W (k + 1) (by omega) (by omega))
      rw [show ((k + 1 : Nat) : Int) = (k : Int) + 1 by omega] at Hc
      obtain ⟨G, hG⟩ : ∃ G, sgF (k + 1) = G := ⟨_, rfl⟩
      rw [hG] at hg hgb Hst Hc
      obtain ⟨M, hM⟩ : ∃ M, G * (Q : Int) = M := ⟨_, rfl⟩
      rw [hM] at hg Hst
      clear hG hQ
      go_wp2_with fail
      go_quiet ((go_at_call 48; exact qcallQ (Hc.out _)))
      go_wp2_with fail
      go_roundw
      case rel => exact ⟨k + 1, hk2, by go_num, by rw [Hst.out], hbel.trans ⟨rfl, rfl, rfl, Nat.le_refl _, fun _ _ => rfl⟩⟩
      case measure => simp [intOf]; omega
    · have Hk := Lib.hid (show k = T by rw [← HT.out]; exact rtF_stop (by rw [HT.out]; exact hk) (by rw [HD.out]; omega))
      go_wp2
      go_ret
      exact ⟨by rw [← Hk.out, HS.out]; rfl, hbel⟩
def cqV (n : Int) : Int := if sqOk n then csS n.toNat (rtF n.toNat) else 0
theorem cqV_no {n : Int} (h : sqOk n = false) : cqV n = 0 := by rw [cqV, h]; rfl
theorem cqV_yes {n : Nat} (h : sqOk (n : Int) = true) : cqV (n : Int) = csS n (rtF n) := by rw [cqV, h, Int.toNat_natCast]; rfl

set_option maxRecDepth 100000 in
set_option maxHeartbeats 800000 in
theorem spec_CountSquareFree_c (w : World) (n : Int) :
    Calls Try.prog 21 #[.int .i64 n] w fun en w' => en = .returned (.tuple #[.int .i64 (cqV n), .bool (sqOk n)]) ∧ Below w.heap.size w w' := by
  cases hg : inB n 1 100000 with
  | false =>
    have ho : sqOk n = false := hg
    rw [cqV_no ho, ho]
    clear ho
    go_enter Try.func21, Try.ntmps21
    go_wp2_with fail
    refine (sqGood_c _ _).mono ?_
    rintro e w1 ⟨rfl, rfl⟩
    go_wp2
    go_ret2
    exact ⟨rfl, (Below.refl _ _)⟩
  | true =>
    have ho : sqOk n = true := hg
    obtain ⟨n1, n2⟩ := inB_true.1 hg
    obtain ⟨N, rfl⟩ := Int.eq_ofNat_of_zero_le (Int.le_trans (by omega) n1)
    rw [cqV_yes ho, ho]
    clear ho
    have N1 : 1 ≤ N := by omega
    have N9 : N ≤ 100000 := by omega
    clear n1 n2
    have Hg := Lib.hid hg
    go_enter Try.func21, Try.ntmps21
    go_wp2_with fail
    refine (sqGood_c _ _).mono ?_
    rintro e w1 ⟨rfl, rfl⟩
    go_wp2_with fail
    refine (sqCount_c _ N N1 (by omega)).mono ?_
    rintro e w2 ⟨rfl, b2⟩
    go_wp2
    go_ret2
    exact ⟨rfl, b2⟩

/- Points in a circle. -/
def ccS (n r : Nat) : Nat → Nat
  | 0 => 0
  | k + 1 => ccS n r k + (2 * rtF (n - ((k : Int) - r).natAbs * ((k : Int) - r).natAbs) + 1)
theorem ccS_le (n r : Nat) (h : n ≤ 200000) : ∀ k, ccS n r k ≤ 1000 * k
  | 0 => Nat.le_refl _
  | k + 1 => by
    have h1 := ccS_le n r h k
    have h2 := rtF_lt (n := n - ((k : Int) - r).natAbs * ((k : Int) - r).natAbs) (by omega)
    rw [ccS]
    omega
theorem abs_sq (x : Int) : x * x = ((x.natAbs * x.natAbs : Nat) : Int) := by rw [Int.natCast_mul, Int.natAbs_mul_self']
def ccV (n : Int) : Int := if sqOk n then (ccS n.toNat (rtF n.toNat) (2 * rtF n.toNat + 1) : Int) else 0
theorem ccV_no {n : Int} (h : sqOk n = false) : ccV n = 0 := by rw [ccV, h]; rfl
theorem ccV_yes {n : Nat} (h : sqOk (n : Int) = true) : ccV (n : Int) = (ccS n (rtF n) (2 * rtF n + 1) : Int) := by rw [ccV, h, Int.toNat_natCast]; rfl
set_option maxRecDepth 100000 in
set_option maxHeartbeats 800000 in
theorem spec_CountInCircle_c (w : World) (n : Int) :
    Calls Try.prog 38 #[.int .i64 n] w fun en w' => en = .returned (.tuple #[.int .i64 (ccV n), .bool (sqOk n)]) ∧ Below w.heap.size w w' := by
  cases hg : inB n 1 100000 with
  | false =>
    have ho : sqOk n = false := hg
    rw [ccV_no ho, ho]
    clear ho
    go_enter Try.func38, Try.ntmps38
    go_wp2_with fail
    refine (sqGood_c _ _).mono ?_
    rintro e w1 ⟨rfl, rfl⟩
    go_wp2
    go_ret2
    exact ⟨rfl, (Below.refl _ _)⟩
  | true =>
    have ho : sqOk n = true := hg
    obtain ⟨n1, n2⟩ := inB_true.1 hg
    obtain ⟨N, rfl⟩ := Int.eq_ofNat_of_zero_le (Int.le_trans (by omega) n1)
    rw [ccV_yes ho, ho]
    clear ho
    have N1 : 1 ≤ N := by omega
    have N9 : N ≤ 100000 := by omega
    clear n1 n2
    have Hpt := Lib.hid (rtF_parts N)
    have hrt := rtF_lt (n := N) (by omega)
    have Hl := Lib.hid (fun k => ccS_le N (rtF N) (by omega) k)
    have Hr := Lib.hid (fun W => sqRoot_c W N (by omega))
    obtain ⟨T, hT⟩ : ∃ T, rtF N = T := ⟨_, rfl⟩
    rw [hT] at hrt Hpt Hl Hr ⊢
    clear hT
    have Hg := Lib.hid hg
    go_enter Try.func38, Try.ntmps38
    go_wp2_with fail
    refine (sqGood_c _ _).mono ?_
    rintro e w1 ⟨rfl, rfl⟩
    go_wp2_with fail
    refine (Hr.out _).mono ?_
    rintro e w5 ⟨rfl, rfl⟩
    go_wp2
    go_loopw [4, 6] (fun c x wr => ∃ k : Nat, k ≤ 2 * T + 1 ∧ x = .int .i64 ((k : Int) - T) ∧ c = .int .i64 (ccS N T k : Int) ∧ w = wr) (fun _ x _ => (449 - intOf x).toNat)
    case atStart => exact ⟨0, Nat.zero_le _, by go_num, rfl, rfl⟩
    case round =>
      obtain ⟨k, hk, rfl, rfl, rfl⟩ := hrel
      have hl := Hl.out k
      have HS := Lib.hid (show ccS N T (k + 1) = _ from rfl)
      obtain ⟨S, hS⟩ : ∃ S, ccS N T k = S := ⟨_, rfl⟩
      rw [hS] at hl ⊢
      by_cases hlt : k ≤ 2 * T
      · obtain ⟨X, hX⟩ : ∃ X : Nat, ((k : Int) - T).natAbs = X := ⟨_, rfl⟩
        have hXT : X ≤ T := by omega
        have hXX : X * X ≤ N := Nat.le_trans (Nat.mul_le_mul hXT hXT) Hpt.out.1
        obtain ⟨D, hD⟩ : ∃ D, X * X = D := ⟨_, rfl⟩
        have hDi : ((k : Int) - T) * ((k : Int) - T) = (D : Int) := by rw [abs_sq, hX, hD]
        rw [hD] at hXX
        have Hst := Lib.hid (show ccS N T (k + 1) = S + (2 * rtF (N - D) + 1) by rw [ccS, hS, hX, hD])
        have hrl := rtF_lt (n := N - D) (by omega)
        have Hc := Lib.hid (fun W => sqRoot_c W (N - D) (by omega))
        rw [show ((N - D : Nat) : Int) = (N : Int) - (D : Int) by omega] at Hc
        obtain ⟨R, hR⟩ : ∃ R, rtF (N - D) = R := ⟨_, rfl⟩
        rw [hR] at hrl Hst Hc
        clear hS hX hD hR HS
        go_wp2_with fail
        refine (Hc.out _).mono ?_
        rintro e w1 ⟨rfl, rfl⟩
        go_wp2
        go_roundw
        case rel => exact ⟨k + 1, by omega, by go_num, by rw [Hst.out]; go_num, by first | rfl | trivial⟩
        case measure => simp [intOf]; omega
      · have Hk := Lib.hid (show k = 2 * T + 1 by omega)
        have HSS := Lib.hid hS
        clear hS HS
        go_wp2
        go_ret2
        exact ⟨by rw [← Hk.out, HSS.out]; rfl, (Below.refl _ _)⟩

end Go.Proofs.Ytkpililllihgcab
