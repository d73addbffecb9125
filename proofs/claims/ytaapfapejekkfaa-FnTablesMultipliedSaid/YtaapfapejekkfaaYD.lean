import Derived.Test.YtaapfapejekkfaaYB
import Derived.Test.YtaapfapejekkfaaP2
import Derived.Test.YtaapfapejekkfaaU1
namespace Go.Proofs.Ytaapfapejekkfaa
open Go.RowKit
set_option linter.unusedVariables false
set_option linter.unusedSimpArgs false

def isV1 (xs : List Int) : Bool := decide (ivL xs 0 = 1) && spAll xs
def isSV (xs : List Int) : Bool := tabB xs && isV1 xs
theorem isSV_no {xs : List Int} (h : tabB xs = false) : isSV xs = false := by rw [isSV, h]; rfl
theorem isSV_yes {xs : List Int} (h : tabB xs = true) : isSV xs = isV1 xs := by rw [isSV, h]; rfl
theorem gcdF_cast (m n : Nat) : gcdF (m : Int) (n : Int) = (Nat.gcd m n : Int) := by rw [gcdF, Int.toNat_natCast, Int.toNat_natCast]
set_option maxRecDepth 100000 in
set_option maxHeartbeats 2000000 in
theorem spec_IsSpread_c (w : World) (A : Option Addr) (m c : Nat) (xs : List Int) (hA : Il w A xs) (hm : m = xs.length) (hn : m ≤ 1048576) :
    Calls Try.prog 117 #[.slice A m c] w fun en w' => en = .returned (.tuple #[.bool (isSV xs), .bool (tabB xs)]) ∧ Below w.heap.size w w' := by
  have Hm := Lib.hid hm
  clear hm
  cases hg : tabB xs with
  | false =>
    rw [isSV_no hg]
    have Hg := Lib.hid (hg ▸ dvIs_c w A m c xs hA Hm.out hn)
    clear hg
    go_enter Try.func117, Try.ntmps117
    go_wp2_with fail
    refine Hg.out.mono ?_
    rintro e w1 ⟨rfl, rfl⟩
    go_wp2
    go_ret2
    exact ⟨rfl, Below.refl _ _⟩
  | true =>
    obtain ⟨x1, x2, x3⟩ := tabB_small hg
    rw [isSV_yes hg]
    have Hg := Lib.hid (hg ▸ dvIs_c w A m c xs hA Hm.out hn)
    have Hx := Lib.hid x1
    have hm1 : 1 ≤ m := by have := Hm.out; omega
    have hm9 : m ≤ 200 := by have := Hm.out; omega
    clear hg x1 x2 x3
    obtain ⟨b, off, rfl, hb, hr⟩ := hA (by have := Hm.out; omega)
    have hc0 := hr 0 (by have := Hm.out; omega)
    rw [Nat.add_zero] at hc0
    have hm0 : (0 : Int) < (m : Int) := by omega
    have Hr := Lib.hid hr
    have hI := Hx.out 0
    by_cases h0 : ivL xs 0 = 1
    · rw [h0] at hc0
      have HV : Hid (isV1 xs = spAll xs) := by show _ = _; rw [isV1, decide_eq_true h0]; rfl
      have Hrow := Lib.hid (fun k (hk : 2 ≤ k) (h : ∀ n, 2 ≤ n → k * n ≤ m → spB xs k n = true) => spRow_true (xs := xs) (m := k) (by omega) (by rw [← Hm.out]; exact h))
      clear hr h0 hI
      go_enter Try.func117, Try.ntmps117
      go_wp2_with fail
      refine Hg.out.mono ?_
      rintro e w1 ⟨rfl, rfl⟩
      go_wp2
      go_loopw [4] (fun i wr => ∃ k : Nat, 2 ≤ k ∧ k ≤ m + 2 ∧ i = .int .i64 (k : Int) ∧ (∀ j, 2 ≤ j → j < k → j ≤ m → spRow xs j = true) ∧ Below w.heap.size w wr) (fun i _ => m + 3 - (intOf i).toNat)
      case atStart => exact ⟨2, Nat.le_refl _, by omega, rfl, fun j h1 h2 => by omega, Below.refl _ _⟩
      case round =>
        obtain ⟨k, hk2, hk9, rfl, hall, hbel⟩ := hrel
        have Hall := Lib.hid hall
        have Hbel := Lib.hid hbel
        clear hall hbel
        by_cases hlt : k ≤ m
        · have hltI : (k : Int) ≤ (m : Int) := by omega
          go_wp2_with fail
          go_loopw [5] (fun i wr => ∃ n : Nat, 2 ≤ n ∧ n ≤ m + 2 ∧ i = .int .i64 (n : Int) ∧ (∀ j, 2 ≤ j → j < n → spB xs k j = true) ∧ Below w.heap.size w wr) (fun i _ => m + 3 - (intOf i).toNat)
          case atStart => exact ⟨2, Nat.le_refl _, by omega, rfl, fun j h1 h2 => by omega, Hbel.out⟩
          case round =>
            obtain ⟨n, hn2, hn9, rfl, hin, hbel2⟩ := hrel
            have Hin := Lib.hid hin
            clear hin
            obtain ⟨P, hP⟩ : ∃ P, k * n = P := ⟨_, rfl⟩
            have hPi : (k : Int) * (n : Int) = (P : Int) := cast_mul2 hP
            have hP9 : P ≤ 80000 := by have := Nat.mul_le_mul (show k ≤ 202 by omega) (show n ≤ 202 by omega); omega
            have hnP : n ≤ P := by rw [← hP]; exact Nat.le_mul_of_pos_left n (by omega)
            have HP := Lib.hid hP
            clear hP
            by_cases hPm : P ≤ m
            · have hcP := (hbel2.cell (p := ⟨b, off + (P - 1), none⟩) hb).trans (Hr.out (P - 1) (by have := Hm.out; omega))
              have hck := (hbel2.cell (p := ⟨b, off + (k - 1), none⟩) hb).trans (Hr.out (k - 1) (by have := Hm.out; omega))
              have hcn := (hbel2.cell (p := ⟨b, off + (n - 1), none⟩) hb).trans (Hr.out (n - 1) (by have := Hm.out; omega))
              have hmb := mul_small (Hx.out (k - 1)) (Hx.out (n - 1))
              have Hsb := Lib.hid (show spB xs k n = (!(Nat.gcd k n == 1) || (ivL xs (P - 1) == ivL xs (k - 1) * ivL xs (n - 1))) by rw [spB, HP.out])
              have Hf := Lib.hid (fun h => spAll_false (xs := xs) (m := k) hk2 (by have := Hm.out; omega) (spRow_false (xs := xs) (m := k) (n := n) (by omega) hn2 (by have := Hm.out; have := HP.out; omega) h))
              have Hc := fun W => siCommon_c (k : Int) (n : Int) W (by omega) (by omega) (by omega) (by omega)
              rw [gcdF_cast] at Hc
              have hkp : (k : Int) - 1 = ((k - 1 : Nat) : Int) := by omega
              have hnp : (n : Int) - 1 = ((n - 1 : Nat) : Int) := by omega
              have hPp : (P : Int) - 1 = ((P - 1 : Nat) : Int) := by omega
              obtain ⟨k', hk'⟩ : ∃ k', k - 1 = k' := ⟨_, rfl⟩
              obtain ⟨n', hn'⟩ : ∃ n', n - 1 = n' := ⟨_, rfl⟩
              obtain ⟨P', hP'⟩ : ∃ P', P - 1 = P' := ⟨_, rfl⟩
              obtain ⟨G, hG⟩ : ∃ G, Nat.gcd k n = G := ⟨_, rfl⟩
              have hG9 : G ≤ k := by rw [← hG]; exact Nat.gcd_le_left _ (by omega)
              rw [hG] at Hsb Hc
              rw [hk', hn'] at hmb Hsb
              rw [hP'] at Hsb hcP hPp
              rw [hk'] at hck hkp
              rw [hn'] at hcn hnp
              obtain ⟨X, hX⟩ : ∃ X, ivL xs k' = X := ⟨_, rfl⟩
              obtain ⟨Y, hY⟩ : ∃ Y, ivL xs n' = Y := ⟨_, rfl⟩
              obtain ⟨V, hV⟩ : ∃ V, ivL xs P' = V := ⟨_, rfl⟩
              rw [hX, hY] at hmb Hsb
              rw [hV] at Hsb hcP
              rw [hX] at hck
              rw [hY] at hcn
              obtain ⟨Z, hZ⟩ : ∃ Z, X * Y = Z := ⟨_, rfl⟩
              rw [hZ] at hmb Hsb
              have HC := Lib.hid Hc
              have hPL : (P' : Int) < (m : Int) := by omega
              have hkL : (k' : Int) < (m : Int) := by omega
              have hnL : (n' : Int) < (m : Int) := by omega
              have hw1 : IntKind.i64.wrap (P : Int) = (P : Int) := IntWalk.i64_in _ (by omega)
              have hw2 : IntKind.i64.wrap (P' : Int) = (P' : Int) := IntWalk.i64_in _ (by omega)
              have hw3 : IntKind.i64.wrap (k' : Int) = (k' : Int) := IntWalk.i64_in _ (by omega)
              have hw4 : IntKind.i64.wrap (n' : Int) = (n' : Int) := IntWalk.i64_in _ (by omega)
              have hw5 : IntKind.i64.wrap Z = Z := IntWalk.i64_in _ (by omega)
              clear hX hY hV hk' hn' hP' hG Hc
              have Hy1 : Hid (spB xs k n = true → ∀ j, 2 ≤ j → j < n + 1 → spB xs k j = true) := fun hh j h1 h2 => by
                rcases Nat.lt_succ_iff_lt_or_eq.1 h2 with h | h
                · exact Hin.out j h1 h
                · rw [h]; exact hh
              by_cases g1 : G = 1
              · have g1b : ((G : Int) == 1) = true := by rw [beq_iff_eq]; omega
                by_cases e1 : V = Z
                · have e1b : (V != Z) = false := by rw [e1]; simp
                  have Hy := Lib.hid (Hy1.out (by rw [Hsb.out, e1]; simp))
                  clear e1 g1
                  go_wp2_with fail
                  go_quiet ((go_at_call 246; exact Calls.quiet_of (HC.out _)))
                  go_wp2
                  go_roundw
                  case rel => exact ⟨n + 1, by omega, by have := HP.out; omega, by go_num, Hy.out, below_drewN hbel2 _⟩
                  case measure => simp [intOf]; omega
                · have e1b : (V != Z) = true := bne_iff_ne.2 e1
                  have Hno := Lib.hid (Hf.out (by rw [Hsb.out, g1, beq_eq_false_iff_ne.2 e1]; rfl))
                  clear e1 g1
                  go_wp2_with fail
                  go_quiet ((go_at_call 246; exact Calls.quiet_of (HC.out _)))
                  go_wp2
                  go_ret2
                  exact ⟨by rw [HV.out, Hno.out]; rfl, below_drewN hbel2 _⟩
              · have g1b : ((G : Int) == 1) = false := beq_eq_false_iff_ne.2 (by omega)
                have Hy := Lib.hid (Hy1.out (by rw [Hsb.out, beq_eq_false_iff_ne.2 g1]; rfl))
                clear g1
                go_wp2_with fail
                go_quiet ((go_at_call 246; exact Calls.quiet_of (HC.out _)))
                go_wp2
                go_roundw
                case rel => exact ⟨n + 1, by omega, by have := HP.out; omega, by go_num, Hy.out, below_drewN hbel2 _⟩
                case measure => simp [intOf]; omega
            · have Hk : Hid (∀ j, 2 ≤ j → j < k + 1 → j ≤ m → spRow xs j = true) := fun j h1 h2 h3 => by
                rcases Nat.lt_succ_iff_lt_or_eq.1 h2 with h | h
                · exact Hall.out j h1 h h3
                · rw [h]
                  refine Hrow.out k hk2 fun j h4 h5 => Hin.out j h4 ?_
                  rcases Nat.lt_or_ge j n with h6 | h6
                  · exact h6
                  · have := Nat.mul_le_mul (Nat.le_refl k) h6
                    have := HP.out
                    omega
              go_wp2
              go_roundw
              case rel => exact ⟨k + 1, by omega, by omega, by go_num, Hk.out, hbel2⟩
              case measure => simp [intOf]; omega
        · have Hyes := Lib.hid (spAll_true (xs := xs) fun j h1 h2 => Hall.out j h1 (by have := Hm.out; omega) (by have := Hm.out; omega))
          go_wp2
          go_ret2
          exact ⟨by rw [HV.out, Hyes.out]; rfl, Hbel.out⟩
    · obtain ⟨X0, hX0⟩ : ∃ X0, ivL xs 0 = X0 := ⟨_, rfl⟩
      have HV : Hid (isV1 xs = false) := by show _ = _; rw [isV1, decide_eq_false h0]; rfl
      rw [hX0] at hc0 hI h0
      have hne : (X0 != 1) = true := bne_iff_ne.2 h0
      clear hr hX0
      go_enter Try.func117, Try.ntmps117
      go_wp2_with fail
      refine Hg.out.mono ?_
      rintro e w1 ⟨rfl, rfl⟩
      go_wp2
      go_ret2
      exact ⟨by rw [HV.out]; rfl, Below.refl _ _⟩

end Go.Proofs.Ytaapfapejekkfaa
