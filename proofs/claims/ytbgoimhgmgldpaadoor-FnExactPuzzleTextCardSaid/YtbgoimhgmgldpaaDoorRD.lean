import Derived.Test.YtbgoimhgmgldpaaDoorE0
import Derived.Test.YtbgoimhgmgldpaaDoorR0
import Derived.Laws.DeepStrings4
namespace Go.Proofs.YtbgoimhgmgldpaaDoor
open Go.RowKit
set_option linter.unusedVariables false
set_option linter.unusedSimpArgs false

/-! Texts split at a sign, numbers read out of texts: what the console asks for too. -/
/-- Whether a byte is a digit; the number that the first k digits tell. -/
def dgB (b : Nat) : Bool := decide (48 ≤ b ∧ b ≤ 57)
def rdA (s : ByteArray) : Nat → Nat
  | 0 => 0
  | k + 1 => 10 * rdA s k + (byN s k - 48)
def rdS (s : ByteArray) : Bool := inB (s.size : Int) 1 6 && !(byN s 0 == 48 && decide (1 < s.size))
def rdD (s : ByteArray) : Bool := (List.range s.size).all fun i => dgB (byN s i)
def rdN (s : ByteArray) : Int := if rdS s && rdD s then (rdA s s.size : Int) else -1
theorem rdN_bad {s : ByteArray} (h : rdS s = false) : rdN s = -1 := by rw [rdN, h]; rfl
theorem rdN_no {s : ByteArray} {i : Nat} (hi : i < s.size) (h : dgB (byN s i) = false) : rdN s = -1 := by
  have : rdD s = false := by
    rw [rdD, List.all_eq_false]
    exact ⟨i, List.mem_range.2 hi, by rw [h]; decide⟩
  rw [rdN, this, Bool.and_false]; rfl
theorem rdN_yes {s : ByteArray} (h1 : rdS s = true) (h : ∀ i, i < s.size → dgB (byN s i) = true) : rdN s = (rdA s s.size : Int) := by
  have : rdD s = true := by
    rw [rdD, List.all_eq_true]
    exact fun i hi => h i (List.mem_range.1 hi)
  rw [rdN, this, h1]; rfl
theorem rdA_lt {s : ByteArray} : ∀ {k : Nat}, (∀ i, i < k → dgB (byN s i) = true) → rdA s k < 10 ^ k
  | 0, _ => by rw [rdA]; decide
  | k + 1, h => by
    have h1 := rdA_lt (k := k) fun i hi => h i (by omega)
    have h2 := of_decide_eq_true (h k (by omega))
    rw [rdA, Nat.pow_succ]
    omega
theorem rdA_small {s : ByteArray} {k : Nat} (hk : k ≤ 6) (h : ∀ i, i < k → dgB (byN s i) = true) : rdA s k < 1000000 :=
  Nat.lt_of_lt_of_le (rdA_lt h) (by
    have := Nat.pow_le_pow_right (n := 10) (by decide) hk
    simpa using this)
set_option maxRecDepth 100000 in
set_option maxHeartbeats 1600000 in
theorem l1Read_c (w : World) (s : ByteArray) (hs : (s.size : Int) ≤ 1000000000) :
    Calls Tryd.prog 17 #[.string s] w fun en w' => en = .returned (.int .i64 (rdN s)) ∧ w = w' := by
  cases hi : inB (s.size : Int) 1 6 with
  | false =>
    rw [rdN_bad (by rw [rdS, hi]; rfl)]
    have Hi := Lib.hid hi
    clear hi
    go_enter Tryd.func17, Tryd.ntmps17
    go_wp2_with fail
    refine (l1In_c _ _ _ _).mono ?_
    rw [Hi.out]
    rintro e w2 ⟨rfl, rfl⟩
    go_wp2
    go_ret
    exact ⟨rfl, rfl⟩
  | true =>
    obtain ⟨i1, i6⟩ := inB_true.1 hi
    have h0s : 0 < s.size := by omega
    have hby0 := byN_at h0s
    have h0i : (0 : Int) < (s.size : Int) := by omega
    have Hi := Lib.hid hi
    obtain ⟨b0, hb0⟩ : ∃ b0, byN s 0 = b0 := ⟨_, rfl⟩
    have hS : rdS s = !(b0 == 48 && decide (1 < s.size)) := by rw [rdS, hi, hb0]; rfl
    rw [hb0] at hby0
    clear hb0 hi
    by_cases hbad : b0 = 48 ∧ 1 < s.size
    · obtain ⟨rfl, hz⟩ := hbad
      rw [rdN_bad (by rw [hS, decide_eq_true hz]; rfl)]
      have hz1 : (1 : Int) < (s.size : Int) := by omega
      clear hS
      go_enter Tryd.func17, Tryd.ntmps17
      go_wp2_with fail
      refine (l1In_c _ _ _ _).mono ?_
      rw [Hi.out]
      rintro e w2 ⟨rfl, rfl⟩
      go_wp2
      go_ret
      exact ⟨rfl, rfl⟩
    · have hS2 : rdS s = true := by
        rw [hS]
        by_cases h : b0 = 48
        · rw [decide_eq_false (by omega), Bool.and_false]; rfl
        · rw [beq_eq_false_iff_ne.2 h]; rfl
      have Hyes := Lib.hid (rdN_yes hS2)
      have Hno := Lib.hid (fun i (h : i < s.size) h2 => rdN_no h h2)
      obtain ⟨T, hT⟩ : ∃ T, rdN s = T := ⟨_, rfl⟩
      rw [hT] at Hyes Hno ⊢
      clear hT hS hS2
      go_enter Tryd.func17, Tryd.ntmps17
      go_wp2_with fail
      refine (l1In_c _ _ _ _).mono ?_
      rw [Hi.out]
      rintro e w2 ⟨rfl, rfl⟩
      by_cases h48 : b0 = 48
      · subst h48
        have hz1 : ¬ (1 : Int) < (s.size : Int) := by omega
        have hz2 : (s.size : Int) ≤ 1 := by omega
        clear hbad
        go_wp2
        go_loop [3, 4] (fun n i => ∃ k : Nat, k ≤ s.size ∧ n = .int .i64 (rdA s k : Int) ∧ i = .int .i64 (k : Int) ∧ ∀ j, j < k → dgB (byN s j) = true) (fun _ i => s.size - (intOf i).toNat)
        case atStart => exact ⟨0, Nat.zero_le _, rfl, rfl, fun j h => by omega⟩
        case round =>
          obtain ⟨k, hk, rfl, rfl, hall⟩ := hrel
          have Hall := Lib.hid hall
          have hsm := rdA_small (s := s) (k := k) (by omega) hall
          clear hall hby0
          by_cases hlt : k < s.size
          · have hki : (k : Int) < (s.size : Int) := by omega
            have hk0 : (0 : Int) ≤ (k : Int) := Int.natCast_nonneg k
            have hby := byN_at hlt
            have Hno1 := Lib.hid (Hno.out k hlt)
            have hx255 : byN s k < 256 := by rw [← hby]; exact (s[k]'hlt).toNat_lt
            have HA : Hid (rdA s (k + 1) = 10 * rdA s k + (byN s k - 48)) := rfl
            obtain ⟨x, hx⟩ : ∃ x, byN s k = x := ⟨_, rfl⟩
            obtain ⟨a, ha⟩ : ∃ a, rdA s k = a := ⟨_, rfl⟩
            rw [hx] at hby Hno1 hx255 HA
            rw [ha] at hsm HA
            rw [ha]
            have Hx := Lib.hid hx
            clear hx ha
            by_cases h1 : x < 48
            · have hx1 : (x : Int) < 48 := by omega
              have HT := Lib.hid (Hno1.out (decide_eq_false (by omega)))
              go_wp2
              go_ret
              exact ⟨by rw [HT.out]; rfl, rfl⟩
            · have hx1 : (48 : Int) ≤ (x : Int) := by omega
              by_cases h2 : 57 < x
              · have hx2 : (57 : Int) < (x : Int) := by omega
                have HT := Lib.hid (Hno1.out (decide_eq_false (by omega)))
                go_wp2
                go_ret
                exact ⟨by rw [HT.out]; rfl, rfl⟩
              · have hx2 : (x : Int) ≤ 57 := by omega
                have hw1 : IntKind.i64.wrap (10 * (a : Int)) = 10 * (a : Int) := IntWalk.i64_in _ (by omega)
                have hw2 : IntKind.u8.wrap ((x : Int) - 48) = (x : Int) - 48 := by simp [IntKind.wrap, IntKind.bits]; omega
                have hw3 : IntKind.i64.wrap ((x : Int) - 48) = (x : Int) - 48 := IntWalk.i64_in _ (by omega)
                have hw4 : IntKind.i64.wrap (10 * (a : Int) + ((x : Int) - 48)) = 10 * (a : Int) + ((x : Int) - 48) := IntWalk.i64_in _ (by omega)
                have hw5 : IntKind.i64.wrap ((k : Int) + 1) = (k : Int) + 1 := IntWalk.i64_in _ (by omega)
                have Hd := Lib.hid (show dgB x = true from decide_eq_true (by omega))
                go_wp2
                go_round
                case rel => exact ⟨k + 1, by omega, by rw [HA.out, Int.natCast_add, Int.natCast_mul, Int.natCast_sub (by omega)]; rfl, by go_num, fun j hj => by
                  rcases Nat.lt_succ_iff_lt_or_eq.1 hj with h | h
                  · exact Hall.out j h
                  · rw [h, Hx.out]; exact Hd.out⟩
                case measure => simp [intOf]; omega
          · have hke : k = s.size := by omega
            have HT := Lib.hid (Hyes.out fun j hj => Hall.out j (by omega))
            have HK := Lib.hid hke
            have hki : (s.size : Int) ≤ (k : Int) := by omega
            clear hke
            go_wp2
            go_ret
            exact ⟨by rw [HT.out, HK.out]; rfl, rfl⟩
      · have hz1 : ((b0 : Int) == 48) = false := beq_eq_false_iff_ne.2 (by omega)
        clear hbad h48
        go_wp2
        go_loop [3, 4] (fun n i => ∃ k : Nat, k ≤ s.size ∧ n = .int .i64 (rdA s k : Int) ∧ i = .int .i64 (k : Int) ∧ ∀ j, j < k → dgB (byN s j) = true) (fun _ i => s.size - (intOf i).toNat)
        case atStart => exact ⟨0, Nat.zero_le _, rfl, rfl, fun j h => by omega⟩
        case round =>
          obtain ⟨k, hk, rfl, rfl, hall⟩ := hrel
          have Hall := Lib.hid hall
          have hsm := rdA_small (s := s) (k := k) (by omega) hall
          clear hall hby0
          by_cases hlt : k < s.size
          · have hki : (k : Int) < (s.size : Int) := by omega
            have hk0 : (0 : Int) ≤ (k : Int) := Int.natCast_nonneg k
            have hby := byN_at hlt
            have Hno1 := Lib.hid (Hno.out k hlt)
            have hx255 : byN s k < 256 := by rw [← hby]; exact (s[k]'hlt).toNat_lt
            have HA : Hid (rdA s (k + 1) = 10 * rdA s k + (byN s k - 48)) := rfl
            obtain ⟨x, hx⟩ : ∃ x, byN s k = x := ⟨_, rfl⟩
            obtain ⟨a, ha⟩ : ∃ a, rdA s k = a := ⟨_, rfl⟩
            rw [hx] at hby Hno1 hx255 HA
            rw [ha] at hsm HA
            rw [ha]
            have Hx := Lib.hid hx
            clear hx ha
            by_cases h1 : x < 48
            · have hx1 : (x : Int) < 48 := by omega
              have HT := Lib.hid (Hno1.out (decide_eq_false (by omega)))
              go_wp2
              go_ret
              exact ⟨by rw [HT.out]; rfl, rfl⟩
            · have hx1 : (48 : Int) ≤ (x : Int) := by omega
              by_cases h2 : 57 < x
              · have hx2 : (57 : Int) < (x : Int) := by omega
                have HT := Lib.hid (Hno1.out (decide_eq_false (by omega)))
                go_wp2
                go_ret
                exact ⟨by rw [HT.out]; rfl, rfl⟩
              · have hx2 : (x : Int) ≤ 57 := by omega
                have hw1 : IntKind.i64.wrap (10 * (a : Int)) = 10 * (a : Int) := IntWalk.i64_in _ (by omega)
                have hw2 : IntKind.u8.wrap ((x : Int) - 48) = (x : Int) - 48 := by simp [IntKind.wrap, IntKind.bits]; omega
                have hw3 : IntKind.i64.wrap ((x : Int) - 48) = (x : Int) - 48 := IntWalk.i64_in _ (by omega)
                have hw4 : IntKind.i64.wrap (10 * (a : Int) + ((x : Int) - 48)) = 10 * (a : Int) + ((x : Int) - 48) := IntWalk.i64_in _ (by omega)
                have hw5 : IntKind.i64.wrap ((k : Int) + 1) = (k : Int) + 1 := IntWalk.i64_in _ (by omega)
                have Hd := Lib.hid (show dgB x = true from decide_eq_true (by omega))
                go_wp2
                go_round
                case rel => exact ⟨k + 1, by omega, by rw [HA.out, Int.natCast_add, Int.natCast_mul, Int.natCast_sub (by omega)]; rfl, by go_num, fun j hj => by
                  rcases Nat.lt_succ_iff_lt_or_eq.1 hj with h | h
                  · exact Hall.out j h
                  · rw [h, Hx.out]; exact Hd.out⟩
                case measure => simp [intOf]; omega
          · have hke : k = s.size := by omega
            have HT := Lib.hid (Hyes.out fun j hj => Hall.out j (by omega))
            have HK := Lib.hid hke
            have hki : (s.size : Int) ≤ (k : Int) := by omega
            clear hke
            go_wp2
            go_ret
            exact ⟨by rw [HT.out, HK.out]; rfl, rfl⟩
end Go.Proofs.YtbgoimhgmgldpaaDoor
