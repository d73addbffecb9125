import Derived.Test.YtbgoimhgmgldpaaR3
namespace Go.Proofs.Ytbgoimhgmgldpaa
open Go.RowKit
set_option linter.unusedVariables false
set_option linter.unusedSimpArgs false

/-- A set of numbers from 1 on as bits: those up to m whose place fits. -/
def setN (p : Nat → Bool) : Nat → Nat
  | 0 => 0
  | k + 1 => if p k then setN p k ||| 2 ^ (k + 1) else setN p k
theorem setN_bit (p : Nat → Bool) : ∀ m i, (setN p m).testBit i = (decide (1 ≤ i ∧ i ≤ m) && p (i - 1)) := by
  intro m
  induction m with
  | zero =>
    intro i
    rw [setN, Nat.zero_testBit]
    rw [decide_eq_false (by omega), Bool.false_and]
  | succ k ih =>
    intro i
    by_cases hi : i = k + 1
    · subst hi
      rw [decide_eq_true (by omega), Bool.true_and, Nat.add_sub_cancel]
      have h0 : (setN p k).testBit (k + 1) = false := by rw [ih, decide_eq_false (by omega), Bool.false_and]
      cases hp : p k with
      | true => rw [setN, if_pos hp, Nat.testBit_or, Nat.testBit_two_pow_self, Bool.or_true]
      | false => rw [setN, if_neg (by rw [hp]; decide), h0]
    · have e : decide (1 ≤ i ∧ i ≤ k + 1) = decide (1 ≤ i ∧ i ≤ k) := by
        apply decide_eq_decide.2; omega
      rw [e, ← ih i]
      cases hp : p k with
      | true => rw [setN, if_pos hp, Nat.testBit_or, Nat.testBit_two_pow_of_ne (by omega), Bool.or_false]
      | false => rw [setN, if_neg (by rw [hp]; decide)]
theorem setN_lt (p : Nat → Bool) (m : Nat) : setN p m < 2 ^ (m + 1) := by
  apply Nat.lt_pow_two_of_testBit
  intro i hi
  rw [setN_bit, decide_eq_false (by omega), Bool.false_and]
theorem setN_lt64 (p : Nat → Bool) {m : Nat} (h : m ≤ 48) : setN p m < 18446744073709551616 :=
  Nat.lt_of_lt_of_le (setN_lt p m) (Nat.le_trans (Nat.pow_le_pow_right (by decide) (show m + 1 ≤ 64 by omega)) (by decide))
theorem setN_and (p q : Nat → Bool) (m : Nat) : (setN p m &&& setN q m = 0) ↔ ∀ i, i < m → (p i && q i) = false := by
  constructor
  · intro h i hi
    have hb : (setN p m &&& setN q m).testBit (i + 1) = false := by rw [h, Nat.zero_testBit]
    rw [Nat.testBit_and, setN_bit, setN_bit, decide_eq_true (show 1 ≤ i + 1 ∧ i + 1 ≤ m by omega), Nat.add_sub_cancel, Bool.true_and, Bool.true_and] at hb
    exact hb
  · intro h
    apply Nat.eq_of_testBit_eq
    intro i
    rw [Nat.testBit_and, setN_bit, setN_bit, Nat.zero_testBit]
    by_cases hi : 1 ≤ i ∧ i ≤ m
    · rw [decide_eq_true hi, Bool.true_and, Bool.true_and]; exact h _ (by omega)
    · rw [decide_eq_false hi, Bool.false_and]; rfl
/-- The numbers that are left, and those that a rule crosses out, as bits. -/
def sgN (s : ByteArray) (g : Nat) : Nat := setN (fun i => byN s i == g) s.size
def crsN (e r : Int) (m : Nat) : Nat := setN (fun i => decide (restF ((i : Int) + 1) e = r)) m
theorem fit_iff {s : ByteArray} {e r : Int} : (crsN e r s.size &&& sgN s 111 = 0) ↔ fitB s e r = true := by
  rw [crsN, sgN, setN_and]
  constructor
  · intro h
    exact fitB_yes fun i hi => by
      have := h i hi
      rw [fitA, Bool.and_comm, this]; rfl
  · intro h i hi
    have h2 := List.all_eq_true.1 h i (List.mem_range.2 hi)
    rw [fitA, Bool.and_comm] at h2
    rwa [Bool.not_eq_true'] at h2
theorem sgN_lt {s : ByteArray} {g : Nat} (h : s.size ≤ 48) : sgN s g < 18446744073709551616 := setN_lt64 _ h
theorem crsN_lt {e r : Int} {m : Nat} (h : m ≤ 48) : crsN e r m < 18446744073709551616 := setN_lt64 _ h

end Go.Proofs.Ytbgoimhgmgldpaa
