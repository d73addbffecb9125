import Derived.Test.YtlchgdkmelkhaaaU5
namespace Go.Proofs.Ytlchgdkmelkhaaa
open Go.RowKit
set_option linter.unusedVariables false
set_option linter.unusedSimpArgs false

/- The first four squares. -/
def q3R (n a b c : Nat) : Nat := n - a * a - b * b - c * c
def q3 (n a b : Nat) : Nat → Nat → Option (List Int)
  | 0, _ => none
  | f + 1, c => if a * a + b * b + 2 * (c * c) ≤ n then (if rtF (q3R n a b c) * rtF (q3R n a b c) = q3R n a b c then some [(a : Int), (b : Int), (c : Int), (rtF (q3R n a b c) : Int)] else q3 n a b f (c + 1)) else none
def q2 (n a : Nat) : Nat → Nat → Option (List Int)
  | 0, _ => none
  | f + 1, b => if a * a + 3 * (b * b) ≤ n then (q3 n a b (100 - b) b).or (q2 n a f (b + 1)) else none
def q1 (n : Nat) : Nat → Nat → Option (List Int)
  | 0, _ => none
  | f + 1, a => if 4 * (a * a) ≤ n then (q2 n a (100 - a) a).or (q1 n f (a + 1)) else none
theorem q3_hit {n a b c : Nat} (hc : c ≤ 71) (h : a * a + b * b + 2 * (c * c) ≤ n) (h2 : rtF (q3R n a b c) * rtF (q3R n a b c) = q3R n a b c) : q3 n a b (100 - c) c = some [(a : Int), (b : Int), (c : Int), (rtF (q3R n a b c) : Int)] := by
  rw [show 100 - c = (99 - c) + 1 by omega, q3, if_pos h, if_pos h2]
theorem q3_miss {n a b c : Nat} (hc : c ≤ 71) (h : a * a + b * b + 2 * (c * c) ≤ n) (h2 : ¬ rtF (q3R n a b c) * rtF (q3R n a b c) = q3R n a b c) : q3 n a b (100 - c) c = q3 n a b (100 - (c + 1)) (c + 1) := by
  rw [show 100 - c = (100 - (c + 1)) + 1 by omega, q3, if_pos h, if_neg h2]
theorem q3_stop {n a b c : Nat} (hc : c ≤ 71) (h : ¬ a * a + b * b + 2 * (c * c) ≤ n) : q3 n a b (100 - c) c = none := by
  rw [show 100 - c = (99 - c) + 1 by omega, q3, if_neg h]
theorem q2_more {n a b : Nat} (hb : b ≤ 71) (h : a * a + 3 * (b * b) ≤ n) : q2 n a (100 - b) b = (q3 n a b (100 - b) b).or (q2 n a (100 - (b + 1)) (b + 1)) := by
  have e : 100 - b = (100 - (b + 1)) + 1 := by omega
  conv => lhs; rw [e]
  rw [q2, if_pos h]
theorem q2_stop {n a b : Nat} (hb : b ≤ 71) (h : ¬ a * a + 3 * (b * b) ≤ n) : q2 n a (100 - b) b = none := by
  rw [show 100 - b = (99 - b) + 1 by omega, q2, if_neg h]
theorem q1_more {n a : Nat} (ha : a ≤ 71) (h : 4 * (a * a) ≤ n) : q1 n (100 - a) a = (q2 n a (100 - a) a).or (q1 n (100 - (a + 1)) (a + 1)) := by
  have e : 100 - a = (100 - (a + 1)) + 1 := by omega
  conv => lhs; rw [e]
  rw [q1, if_pos h]
theorem q1_stop {n a : Nat} (ha : a ≤ 71) (h : ¬ 4 * (a * a) ≤ n) : q1 n (100 - a) a = none := by
  rw [show 100 - a = (99 - a) + 1 by omega, q1, if_neg h]
def q4Ok (n : Int) : Bool := inB n 1 5000
def q4B (n : Int) : Bool := q4Ok n && (q1 n.toNat 100 0).isSome
def q4V (n : Int) : List Int := if q4Ok n then (q1 n.toNat 100 0).getD [] else []
theorem q4B_no {n : Int} (h : q4Ok n = false) : q4B n = false := by rw [q4B, h]; rfl
theorem q4V_no {n : Int} (h : q4Ok n = false) : q4V n = [] := by rw [q4V, h]; rfl
theorem q4B_yes {n : Nat} (h : q4Ok (n : Int) = true) : q4B (n : Int) = (q1 n 100 0).isSome := by rw [q4B, h, Int.toNat_natCast]; rfl
theorem q4V_yes {n : Nat} (h : q4Ok (n : Int) = true) : q4V (n : Int) = (q1 n 100 0).getD [] := by rw [q4V, h, Int.toNat_natCast]; rfl

/-- A literal of four ints. -/
theorem own_four (w : World) (B : Nat) (hB : B ≤ w.heap.size) (x y z u : Int) : OwnI (w.alloc (.cells #[.int .i64 x, .int .i64 y, .int .i64 z, .int .i64 u] 3)) B (.slice (some ⟨w.heap.size, 0, none⟩) 4 4) [x, y, z, u] :=
  OwnI.mono (World.ownsRow_lit w #[.int .i64 x, .int .i64 y, .int .i64 z, .int .i64 u] 4 (Nat.le_refl _) (by unfold maxLen; omega) rfl : (w.alloc (.cells #[.int .i64 x, .int .i64 y, .int .i64 z, .int .i64 u] 3)).ownsRow w.heap.size 3 1 _ 4 _) hB

set_option maxRecDepth 100000 in
set_option maxHeartbeats 1600000 in
theorem spec_FourSquares_c (w : World) (n : Int) :
    Calls Try.prog 57 #[.int .i64 n] w fun en w' => (∃ v, en = .returned (.tuple #[v, .bool (q4B n)]) ∧ OwnI w' w.heap.size v (q4V n)) ∧ Below w.heap.size w w' := by
  cases hg : inB n 1 5000 with
  | false =>
    have ho : q4Ok n = false := hg
    rw [q4V_no ho, q4B_no ho]
    clear ho
    go_enter Try.func57, Try.ntmps57
    go_wp2_with fail
    refine (l1In_c _ _ _ _).mono ?_
    rintro e w1 ⟨rfl, rfl⟩
    go_wp2
    go_ret2
    exact ⟨⟨_, rfl, OwnI.nil _ _⟩, (Below.refl _ _)⟩
  | true =>
    have ho : q4Ok n = true := hg
    obtain ⟨n1, n2⟩ := inB_true.1 hg
    obtain ⟨N, rfl⟩ := Int.eq_ofNat_of_zero_le (Int.le_trans (by omega) n1)
    rw [q4V_yes ho, q4B_yes ho]
    clear ho
    have N1 : 1 ≤ N := by omega
    have N9 : N ≤ 5000 := by omega
    clear n1 n2
    obtain ⟨T, hT⟩ : ∃ T, q1 N 100 0 = T := ⟨_, rfl⟩
    have HT := Lib.hid hT
    rw [hT]
    clear hT
    have Hg := Lib.hid hg
    go_enter Try.func57, Try.ntmps57
    go_wp2_with fail
    refine (l1In_c _ _ _ _).mono ?_
    rintro e w1 ⟨rfl, rfl⟩
    go_wp2
    go_loop [4] (fun r => ∃ a : Nat, r = .int .i64 (a : Int) ∧ a ≤ 71 ∧ q1 N (100 - a) a = T) (fun i => 100 - (intOf i).toNat)
    case atStart => exact ⟨0, rfl, by omega, HT.out⟩
    case round =>
      obtain ⟨a, rfl, ha, h1⟩ := hrel
      obtain ⟨A, hA⟩ : ∃ A, a * a = A := ⟨_, rfl⟩
      have hA2 : (a : Int) * (a : Int) = (A : Int) := cast_sq hA
      have hA4 : 4 * (a : Int) * (a : Int) = 4 * (A : Int) := by rw [Int.mul_assoc, hA2]
      have hA9 : A ≤ 5041 := by have := Nat.mul_le_mul ha ha; omega
      have HA := Lib.hid hA
      have H1 := Lib.hid h1
      clear hA h1
      by_cases l1 : 4 * A ≤ N
      · have ha9 := sq_lt_of (d := a) (n := A) (b := 71) (by rw [HA.out]; exact Nat.le_refl _) (by omega)
        have H1b := Lib.hid ((q1_more ha (by rw [HA.out]; exact l1)).symm.trans H1.out)
        go_wp2_with fail
        go_loop [5] (fun r => ∃ b : Nat, r = .int .i64 (b : Int) ∧ b ≤ 71 ∧ (q2 N a (100 - b) b).or (q1 N (100 - (a + 1)) (a + 1)) = T) (fun i => 100 - (intOf i).toNat)
        case atStart => exact ⟨a, rfl, ha, H1b.out⟩
        case round =>
          obtain ⟨b, rfl, hb, h2⟩ := hrel
          obtain ⟨B, hB⟩ : ∃ B, b * b = B := ⟨_, rfl⟩
          have hB2 : (b : Int) * (b : Int) = (B : Int) := cast_sq hB
          have hB4 : 3 * (b : Int) * (b : Int) = 3 * (B : Int) := by rw [Int.mul_assoc, hB2]
          have hB9 : B ≤ 5041 := by have := Nat.mul_le_mul hb hb; omega
          have HB := Lib.hid hB
          have H2 := Lib.hid h2
          clear hB h2
          by_cases l2 : A + 3 * B ≤ N
          · have hb9 := sq_lt_of (d := b) (n := B) (b := 71) (by rw [HB.out]; exact Nat.le_refl _) (by omega)
            have H2b := Lib.hid (show ((q3 N a b (100 - b) b).or (q2 N a (100 - (b + 1)) (b + 1))).or (q1 N (100 - (a + 1)) (a + 1)) = T by rw [← q2_more hb (by rw [HA.out, HB.out]; exact l2)]; exact H2.out)
            go_wp2_with fail
            go_loop [6] (fun r => ∃ c : Nat, r = .int .i64 (c : Int) ∧ c ≤ 71 ∧ ((q3 N a b (100 - c) c).or (q2 N a (100 - (b + 1)) (b + 1))).or (q1 N (100 - (a + 1)) (a + 1)) = T) (fun i => 100 - (intOf i).toNat)
            case atStart => exact ⟨b, rfl, hb, H2b.out⟩
            case round =>
              obtain ⟨c, rfl, hc, h3⟩ := hrel
              obtain ⟨C, hC⟩ : ∃ C, c * c = C := ⟨_, rfl⟩
              have hC2 : (c : Int) * (c : Int) = (C : Int) := cast_sq hC
              have hC4 : 2 * (c : Int) * (c : Int) = 2 * (C : Int) := by rw [Int.mul_assoc, hC2]
              have hC9 : C ≤ 5041 := by have := Nat.mul_le_mul hc hc; omega
              have HC := Lib.hid hC
              have H3 := Lib.hid h3
              clear hC h3
              by_cases l3 : A + B + 2 * C ≤ N
              · have hc9 := sq_lt_of (d := c) (n := C) (b := 71) (by rw [HC.out]; exact Nat.le_refl _) (by omega)
                obtain ⟨r, hr⟩ : ∃ r, N - A - B - C = r := ⟨_, rfl⟩
                have hri : (N : Int) - (A : Int) - (B : Int) - (C : Int) = (r : Int) := by omega
                have hr9 : r ≤ 5000 := by omega
                have Hr := Lib.hid (show q3R N a b c = r by rw [q3R, HA.out, HB.out, HC.out, hr])
                have hrl := rtF_lt (n := r) (by omega)
                have Hc := Lib.hid (fun W => sqRoot_c W r (by omega))
                obtain ⟨R, hR⟩ : ∃ R, rtF r = R := ⟨_, rfl⟩
                rw [hR] at hrl Hc
                obtain ⟨E, hE⟩ : ∃ E, R * R = E := ⟨_, rfl⟩
                have hEi : (R : Int) * (R : Int) = (E : Int) := cast_sq hE
                have hE9 : E ≤ 200704 := by have := Nat.mul_le_mul (show R ≤ 448 by omega) (show R ≤ 448 by omega); omega
                clear hr
                by_cases he : E = r
                · have he2 : ((E : Int) == (r : Int)) = true := by rw [beq_iff_eq]; omega
                  have HF : Hid (T = some [(a : Int), (b : Int), (c : Int), (R : Int)]) := by
                    show _ = _
                    rw [← H3.out, q3_hit hc (by rw [HA.out, HB.out, HC.out]; exact l3) (by rw [Hr.out, hR, hE]; exact he), Hr.out, hR]
                    rfl
                  clear hR hE he
                  go_wp2_with fail
                  refine (Hc.out _).mono ?_
                  rintro e w1 ⟨rfl, rfl⟩
                  go_wp2
                  go_ret2
                  exact ⟨⟨_, by rw [HF.out]; rfl, by rw [HF.out]; exact own_four _ _ (Nat.le_refl _) _ _ _ _⟩, (Below.refl _ _).alloc (Nat.le_refl _) _⟩
                · have he2 : ((E : Int) == (r : Int)) = false := beq_eq_false_iff_ne.2 (by omega)
                  have HF := Lib.hid (show ((q3 N a b (100 - (c + 1)) (c + 1)).or (q2 N a (100 - (b + 1)) (b + 1))).or (q1 N (100 - (a + 1)) (a + 1)) = T by
                    rw [← q3_miss hc (by rw [HA.out, HB.out, HC.out]; exact l3) (by rw [Hr.out, hR, hE]; exact he)]
                    exact H3.out)
                  clear hR hE he
                  go_wp2_with fail
                  refine (Hc.out _).mono ?_
                  rintro e w1 ⟨rfl, rfl⟩
                  go_wp2
                  go_round
                  case rel => exact ⟨c + 1, by go_num, by omega, HF.out⟩
                  case measure => simp [intOf]; omega
              · have HF := Lib.hid (show (q2 N a (100 - (b + 1)) (b + 1)).or (q1 N (100 - (a + 1)) (a + 1)) = T by
                  have h := H3.out
                  rw [q3_stop hc (by rw [HA.out, HB.out, HC.out]; exact l3)] at h
                  exact h)
                go_wp2_with fail
                go_round
                case rel => exact ⟨b + 1, by go_num, by omega, HF.out⟩
                case measure => simp [intOf]; omega
          · have HF := Lib.hid (show q1 N (100 - (a + 1)) (a + 1) = T by
              have h := H2.out
              rw [q2_stop hb (by rw [HA.out, HB.out]; exact l2)] at h
              exact h)
            go_wp2_with fail
            go_round
            case rel => exact ⟨a + 1, by go_num, by omega, HF.out⟩
            case measure => simp [intOf]; omega
      · have HF := Lib.hid (show T = none by rw [← H1.out]; exact q1_stop ha (by rw [HA.out]; exact l1))
        go_wp2
        go_ret2
        exact ⟨⟨_, by rw [HF.out]; rfl, by rw [HF.out]; exact OwnI.nil _ _⟩, (Below.refl _ _)⟩

end Go.Proofs.Ytlchgdkmelkhaaa
