import Derived.Test.YtgkciiklgadgkaaKP
import Derived.Maps.Own
import Derived.Maps.OwnSet
namespace Go.Proofs.Ytgkciiklgadgkaa
open Go.RowKit Go.Maps
set_option linter.unusedVariables false
set_option linter.unusedSimpArgs false

/-- The set of the first k numbers for which p holds, as a map's datum. -/
def Rs (p : Int → Bool) : Nat → DataW Unit
  | 0 => .map []
  | k + 1 => if p (k : Int) then (Rs p k).put (.int .i64 (k : Int)) (.lit (.bool true)) else Rs p k
theorem Rs_yes {p : Int → Bool} {k : Nat} (h : p (k : Int) = true) : Rs p (k + 1) = (Rs p k).put (.int .i64 (k : Int)) (.lit (.bool true)) := by rw [Rs, if_pos h]
theorem Rs_no {p : Int → Bool} {k : Nat} (h : p (k : Int) = false) : Rs p (k + 1) = Rs p k := by rw [Rs, if_neg (by rw [h]; exact Bool.false_ne_true)]
theorem tidy_Rs (p : Int → Bool) (k : Nat) : Tidy (Rs p k) := by
  induction k with
  | zero => exact tidy_empty
  | succ k ih =>
    cases h : p (k : Int) with
    | true => rw [Rs_yes h]; exact ih.put (by trivial) _
    | false => rw [Rs_no h]; exact ih
/-- Whose keys they are. -/
def inB2 (p : Int → Bool) (k : Nat) (j : Int) : Bool := decide (0 ≤ j ∧ j < (k : Int)) && p j
theorem has_Rs (p : Int → Bool) (k : Nat) (j : Int) : has (Rs p k) (.int .i64 j) = inB2 p k j := by
  induction k with
  | zero => 
    have : ¬ (0 ≤ j ∧ j < ((0 : Nat) : Int)) := by omega
    simp only [inB2, this, decide_false, Bool.false_and]; rfl
  | succ k ih =>
    by_cases hj : j = (k : Int)
    · subst hj
      cases h : p (k : Int) with
      | true => rw [Rs_yes h, has_put_same (tidy_Rs p k).isMap (by trivial)]; simp [inB2, h]; omega
      | false => rw [Rs_no h, ih]; simp [inB2, h]
    · have hd : decide (0 ≤ j ∧ j < ((k + 1 : Nat) : Int)) = decide (0 ≤ j ∧ j < (k : Int)) := by apply decide_eq_decide.2; omega
      have hi : inB2 p (k + 1) j = inB2 p k j := by simp only [inB2, hd]
      rw [hi, ← ih]
      cases h : p (k : Int) with
      | true => rw [Rs_yes h, has_put_other (fun e => hj (by cases e; rfl))]
      | false => rw [Rs_no h]
theorem size_Rs (p : Int → Bool) (k : Nat) : Maps.size (Rs p k) = cntF p 0 k := by
  induction k with
  | zero => rfl
  | succ k ih =>
    have e : ((0 : Nat) : Int) + (k : Int) = (k : Int) := by omega
    cases h : p (k : Int) with
    | true =>
      rw [Rs_yes h, size_put (tidy_Rs p k), has_Rs, cntF_yes (by rw [e]; exact h), ih]
      have : inB2 p k (k : Int) = false := by simp [inB2]
      rw [this]; rfl
    | false => rw [Rs_no h, cntF_no (by rw [e]; exact h), ih]

theorem keyI : Keyed Try.prog 3 := int_keyed Try.underlying3
theorem map_below {w w' : World} {P : Program} {k : TypeId} {R : Value → Option (DataW Unit × List MemPlace)} {b n B : Nat} {D : DataW Unit} (h : w.ownsMap P k R b n D) (hb : Below B w w') (hB : w.heap.size ≤ B) : w'.ownsMap P k R b n D := by
  have hlt := h.lt
  obtain ⟨es, clock, hb0, F, hs, hD⟩ := h
  exact ⟨es, clock, (hb.block b (by omega)).trans hb0, F, hs, hD⟩
theorem wfN {k n : Nat} (h : k ≤ n) (hn : n ≤ 100000) : (Lit.int .i64 (k : Int)).wf = true := by
  have h2 : (k : Int) ≤ 100000 := by omega
  have h1 : IntKind.i64.min = -9223372036854775808 := by decide
  have h3 : IntKind.i64.max = 9223372036854775807 := by decide
  simp only [Lit.wf, Bool.and_eq_true, decide_eq_true_eq, h1, h3]
  omega



end Go.Proofs.Ytgkciiklgadgkaa
