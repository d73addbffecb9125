import Derived.Test.YtbgoimhgmgldpaaDoorA5
namespace Go.Proofs.YtbgoimhgmgldpaaDoor
open Go.RowKit
set_option linter.unusedVariables false
set_option linter.unusedSimpArgs false

/-! Patterns of a puzzle: texts of the signs o, x and ?. -/
/-- The byte at i of a text, as a number; 0 behind its end. -/
def byN (s : ByteArray) (i : Nat) : Nat := if h : i < s.size then (s[i]'h).toNat else 0
theorem byN_at {s : ByteArray} {i : Nat} (h : i < s.size) : (s[i]'h).toNat = byN s i := by rw [byN, dif_pos h]
def sgB (b : Nat) : Bool := b == 111 || b == 120 || b == 63
def patB (s : ByteArray) : Bool := decide (1 ≤ s.size ∧ s.size ≤ 48) && (List.range s.size).all fun i => sgB (byN s i)
theorem patB_size {s : ByteArray} (h : ¬ (1 ≤ s.size ∧ s.size ≤ 48)) : patB s = false := by rw [patB, decide_eq_false h]; rfl
theorem patB_no {s : ByteArray} {i : Nat} (hi : i < s.size) (h : sgB (byN s i) = false) : patB s = false := by
  have : ((List.range s.size).all fun i => sgB (byN s i)) = false := by
    rw [List.all_eq_false]
    exact ⟨i, List.mem_range.2 hi, by rw [h]; decide⟩
  rw [patB, this, Bool.and_false]
theorem patB_yes {s : ByteArray} (h1 : 1 ≤ s.size ∧ s.size ≤ 48) (h : ∀ i, i < s.size → sgB (byN s i) = true) : patB s = true := by
  rw [patB, decide_eq_true h1, Bool.true_and, List.all_eq_true]
  exact fun i hi => h i (List.mem_range.1 hi)
theorem patB_parts {s : ByteArray} (h : patB s = true) : 1 ≤ s.size ∧ s.size ≤ 48 ∧ ∀ i, i < s.size → sgB (byN s i) = true := by
  rw [patB, Bool.and_eq_true, decide_eq_true_eq, List.all_eq_true] at h
  exact ⟨h.1.1, h.1.2, fun i hi => h.2 i (List.mem_range.2 hi)⟩
theorem sgB_iff {b : Nat} : sgB b = true ↔ b = 111 ∨ b = 120 ∨ b = 63 := by simp [sgB, or_assoc]

set_option maxRecDepth 100000 in
set_option maxHeartbeats 800000 in
theorem pzPattern_c (w : World) (s : ByteArray) (hs : (s.size : Int) ≤ 1000000000) :
    Calls Tryd.prog 20 #[.string s] w fun en w' => en = .returned (.bool (patB s)) ∧ w = w' := by
  by_cases h48 : 1 ≤ s.size ∧ s.size ≤ 48
  rotate_left
  · have ho := patB_size (s := s) h48
    have Hi := Lib.hid (show inB (s.size : Int) 1 48 = false from inB_false.2 (by omega))
    rw [ho]
    clear ho h48
    go_enter Tryd.func20, Tryd.ntmps20
    go_wp2_with fail
    refine (l1In_c _ _ _ _).mono ?_
    rw [Hi.out]
    rintro e w2 ⟨rfl, rfl⟩
    go_wp2
    go_ret
    exact ⟨rfl, rfl⟩
  have Hi := Lib.hid (show inB (s.size : Int) 1 48 = true from inB_true.2 (by omega))
  obtain ⟨T, hT⟩ : ∃ T, patB s = T := ⟨_, rfl⟩
  rw [hT]
  have Hyes := Lib.hid (fun h => hT.symm.trans (patB_yes h48 h))
  have Hno := Lib.hid (fun i (hi : i < s.size) h => hT.symm.trans (patB_no hi h))
  clear hT h48
  go_enter Tryd.func20, Tryd.ntmps20
  go_wp2_with fail
  refine (l1In_c _ _ _ _).mono ?_
  rw [Hi.out]
  rintro e w2 ⟨rfl, rfl⟩
  go_wp2
  go_loop [3] (fun i => ∃ k : Nat, k ≤ s.size ∧ i = .int .i64 (k : Int) ∧ ∀ j, j < k → sgB (byN s j) = true) (fun i => s.size - (intOf i).toNat)
  case atStart => exact ⟨0, Nat.zero_le _, rfl, fun j h => by omega⟩
  case round =>
    obtain ⟨k, hk, rfl, hall⟩ := hrel
    have Hall := Lib.hid hall
    clear hall
    by_cases hlt : k < s.size
    · have hki : (k : Int) < (s.size : Int) := by omega
      have hk0 : (0 : Int) ≤ (k : Int) := Int.natCast_nonneg k
      have hby := byN_at hlt
      have Hno1 := Lib.hid (Hno.out k hlt)
      obtain ⟨b, hb⟩ : ∃ b, byN s k = b := ⟨_, rfl⟩
      rw [hb] at hby Hno1
      have Hb := Lib.hid hb
      clear hb
      by_cases h1 : b = 111
      · subst h1
        go_wp2
        go_round
        case rel => exact ⟨k + 1, by omega, by go_num, fun j hj => by
          rcases Nat.lt_succ_iff_lt_or_eq.1 hj with h | h
          · exact Hall.out j h
          · rw [h, Hb.out]; rfl⟩
        case measure => simp [intOf]; omega
      by_cases h2 : b = 120
      · subst h2
        go_wp2
        go_round
        case rel => exact ⟨k + 1, by omega, by go_num, fun j hj => by
          rcases Nat.lt_succ_iff_lt_or_eq.1 hj with h | h
          · exact Hall.out j h
          · rw [h, Hb.out]; rfl⟩
        case measure => simp [intOf]; omega
      by_cases h3 : b = 63
      · subst h3
        go_wp2
        go_round
        case rel => exact ⟨k + 1, by omega, by go_num, fun j hj => by
          rcases Nat.lt_succ_iff_lt_or_eq.1 hj with h | h
          · exact Hall.out j h
          · rw [h, Hb.out]; rfl⟩
        case measure => simp [intOf]; omega
      have hb1 : ((b : Int) == 111) = false := beq_eq_false_iff_ne.2 (by omega)
      have hb2 : ((b : Int) == 120) = false := beq_eq_false_iff_ne.2 (by omega)
      have hb3 : ((b : Int) == 63) = false := beq_eq_false_iff_ne.2 (by omega)
      have hd1 : ((b : Int) != 111) = true := by rw [bne, hb1]; rfl
      have hd2 : ((b : Int) != 120) = true := by rw [bne, hb2]; rfl
      have hd3 : ((b : Int) != 63) = true := by rw [bne, hb3]; rfl
      have Hy : Hid (T = false) := Hno1.out (by
        cases hq : sgB b with
        | false => rfl
        | true => have := sgB_iff.1 hq; omega)
      go_wp2
      go_ret
      exact ⟨by rw [Hy.out]; rfl, rfl⟩
    · have Hy := Lib.hid (Hyes.out fun j hj => Hall.out j (by omega))
      have hki : (s.size : Int) ≤ (k : Int) := by omega
      go_wp2
      go_ret
      exact ⟨by rw [Hy.out]; rfl, rfl⟩

end Go.Proofs.YtbgoimhgmgldpaaDoor
