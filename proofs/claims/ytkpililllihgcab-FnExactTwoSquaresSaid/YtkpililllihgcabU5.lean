import Derived.Test.YtkpililllihgcabU4
import Derived.Test.YtkpililllihgcabGB
namespace Go.Proofs.Ytkpililllihgcab
open Go.RowKit
set_option linter.unusedVariables false
set_option linter.unusedSimpArgs false

/- Sums of two squares, all of them. -/
def tsB (n a : Nat) : Bool := rtF (n - a * a) * rtF (n - a * a) == n - a * a
def tsL (n : Nat) : Nat → List (List Int)
  | 0 => []
  | k + 1 => tsL n k ++ (if tsB n k then [[(k : Int), (rtF (n - k * k) : Int)]] else [])
theorem tsL_yes {n k : Nat} (h : tsB n k = true) : tsL n (k + 1) = tsL n k ++ [[(k : Int), (rtF (n - k * k) : Int)]] := by rw [tsL, if_pos h]
theorem tsL_no {n k : Nat} (h : tsB n k = false) : tsL n (k + 1) = tsL n k := by rw [tsL, if_neg (by rw [h]; exact Bool.false_ne_true), List.append_nil]
theorem tsL_len (n : Nat) : ∀ k, (tsL n k).length ≤ k
  | 0 => Nat.le_refl _
  | k + 1 => by
    have := tsL_len n k
    rw [tsL, List.length_append]
    split <;> simp <;> omega
theorem half_sq {n k : Nat} (h : 2 * k * k ≤ n) : k * k ≤ n / 2 := by rw [Nat.mul_assoc] at h; omega
theorem half_no {n k : Nat} (h : n < 2 * k * k) : n / 2 < k * k := by rw [Nat.mul_assoc] at h; omega
def tsA (n : Int) : List (List Int) := if sqOk n then tsL n.toNat (rtF (n.toNat / 2) + 1) else []
theorem tsA_no {n : Int} (h : sqOk n = false) : tsA n = [] := by rw [tsA, h]; rfl
theorem tsA_yes {n : Nat} (h : sqOk (n : Int) = true) : tsA (n : Int) = tsL n (rtF (n / 2) + 1) := by rw [tsA, h, Int.toNat_natCast]; rfl

set_option maxRecDepth 100000 in
set_option maxHeartbeats 1200000 in
theorem spec_TwoSquares_c (w : World) (n : Int) :
    Calls Try.prog 25 #[.int .i64 n] w fun en w' => (∃ v, en = .returned (.tuple #[v, .bool (sqOk n)]) ∧ OwnLL w' w.heap.size v (tsA n)) ∧ Below w.heap.size w w' := by
  cases hg : inB n 1 100000 with
  | false =>
    have ho : sqOk n = false := hg
    rw [tsA_no ho, ho]
    clear ho
    go_enter Try.func25, Try.ntmps25
    go_wp2_with fail
    refine (sqGood_c _ _).mono ?_
    rintro e w1 ⟨rfl, rfl⟩
    go_wp2
    go_ret2
    exact ⟨⟨_, rfl, OwnLL.nil _ _⟩, (Below.refl _ _)⟩
  | true =>
    have ho : sqOk n = true := hg
    obtain ⟨n1, n2⟩ := inB_true.1 hg
    obtain ⟨N, rfl⟩ := Int.eq_ofNat_of_zero_le (Int.le_trans (by omega) n1)
    rw [tsA_yes ho, ho]
    clear ho
    have N1 : 1 ≤ N := by omega
    have N9 : N ≤ 100000 := by omega
    clear n1 n2
    have hrt := rtF_lt (n := N / 2) (by omega)
    have Hlen := Lib.hid (fun k => tsL_len N k)
    obtain ⟨T, hT⟩ : ∃ T, rtF (N / 2) = T := ⟨_, rfl⟩
    have HT := Lib.hid hT
    rw [hT] at hrt ⊢
    clear hT
    have Hg := Lib.hid hg
    go_enter Try.func25, Try.ntmps25
    go_wp2_with fail
    refine (sqGood_c _ _).mono ?_
    rintro e w1 ⟨rfl, rfl⟩
    go_wp2
    go_loopw [4, 5] (fun v i wr => ∃ k : Nat, k ≤ T + 1 ∧ i = .int .i64 (k : Int) ∧ OwnLL wr w.heap.size v (tsL N k) ∧ Below w.heap.size w wr) (fun _ i _ => 450 - (intOf i).toNat)
    case atStart => exact ⟨0, Nat.zero_le _, rfl, OwnLL.nil _ _, Below.refl _ _⟩
    case round =>
      rename_i v
      obtain ⟨k, hk, rfl, hown, hbel⟩ := hrel
      have Hown := Lib.hid hown
      have hs := hbel.size
      have Hl := Lib.hid (show (tsL N k).length ≤ 1000 by have := Hlen.out k; omega)
      clear hown
      obtain ⟨D, hD⟩ : ∃ D, k * k = D := ⟨_, rfl⟩
      have hDi : (k : Int) * (k : Int) = (D : Int) := cast_sq hD
      have hD2 : 2 * (k : Int) * (k : Int) = 2 * (D : Int) := by rw [Int.mul_assoc, hDi]
      have hD9 : D ≤ 200704 := by have := Nat.mul_le_mul (show k ≤ 448 by omega) (show k ≤ 448 by omega); omega
      have HD := Lib.hid hD
      clear hD
      by_cases hlt : 2 * D ≤ N
      · have hk2 : k + 1 ≤ T + 1 := by
          rcases Nat.eq_zero_or_pos k with e | e
          · omega
          · have := rtF_more (n := N / 2) (k := k - 1) (by rw [show k - 1 + 1 = k by omega, HD.out]; omega)
            have := HT.out
            omega
        have hrl := rtF_lt (n := N - D) (by omega)
        have Hc := Lib.hid (fun W => sqRoot_c W (N - D) (by omega))
        rw [show ((N - D : Nat) : Int) = (N : Int) - (D : Int) by omega] at Hc
        obtain ⟨R, hR⟩ : ∃ R, rtF (N - D) = R := ⟨_, rfl⟩
        rw [hR] at hrl Hc
        obtain ⟨E, hE⟩ : ∃ E, R * R = E := ⟨_, rfl⟩
        have hEi : (R : Int) * (R : Int) = (E : Int) := cast_sq hE
        have hE9 : E ≤ 200704 := by have := Nat.mul_le_mul (show R ≤ 448 by omega) (show R ≤ 448 by omega); omega
        by_cases he : E = N - D
        · have he2 : ((E : Int) == (N : Int) - (D : Int)) = true := by rw [beq_iff_eq]; omega
          have Hy := Lib.hid (tsL_yes (n := N) (k := k) (by rw [tsB, HD.out, hR, hE, beq_iff_eq]; exact he))
          have HyR := Lib.hid (show (rtF (N - k * k) : Int) = (R : Int) by rw [HD.out, hR])
          clear hR hE he
          go_wp2_with fail
          refine (Hc.out _).mono ?_
          rintro e w1 ⟨rfl, rfl⟩
          have ho2 := own_two wr w.heap.size hs (k : Int) (R : Int)
          have Ho2 := Lib.hid ho2
          clear ho2
          go_wp2_with (at_builtin; (refine wp_app_ll _ _ rfl _ _ rfl w.heap.size _ _ rfl wr Hown.out ((Below.refl _ _).alloc (Nat.le_refl _) _) _ Ho2.out (fun q hq => by simp [Value.ownBlock] at hq; omega) _ rfl (by simp) (by have := Hl.out; omega) (by simp; omega) ?_); intro v' w4 hown4 b4)
          go_roundw
          case rel => exact ⟨k + 1, hk2, by go_num, by rw [Hy.out, HyR.out]; exact hown4, (hbel.alloc hs _).trans b4⟩
          case measure => simp [intOf]; omega
        · have he2 : ((E : Int) == (N : Int) - (D : Int)) = false := beq_eq_false_iff_ne.2 (by omega)
          have Hy := Lib.hid (tsL_no (n := N) (k := k) (by rw [tsB, HD.out, hR, hE]; exact beq_eq_false_iff_ne.2 he))
          clear hR hE he
          go_wp2_with fail
          refine (Hc.out _).mono ?_
          rintro e w1 ⟨rfl, rfl⟩
          go_wp2
          go_roundw
          case rel => exact ⟨k + 1, hk2, by go_num, by rw [Hy.out]; exact Hown.out, hbel⟩
          case measure => simp [intOf]; omega
      · have Hk := Lib.hid (show k = T + 1 by
          rcases Nat.lt_or_ge k (T + 1) with h3 | h3
          · have h4 := (rtF_parts (N / 2)).1
            rw [HT.out] at h4
            have h5 := Nat.mul_le_mul (show k ≤ T by omega) (show k ≤ T by omega)
            have := HD.out
            omega
          · omega)
        go_wp2
        go_ret2
        exact ⟨⟨_, rfl, by rw [← Hk.out]; exact Hown.out⟩, hbel⟩

end Go.Proofs.Ytkpililllihgcab
