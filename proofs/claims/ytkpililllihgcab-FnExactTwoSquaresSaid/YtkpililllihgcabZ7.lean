import Derived.Test.YtkpililllihgcabZ6
import Derived.Test.YtkpililllihgcabZ8
namespace Go.Proofs.Ytkpililllihgcab
open Go.RowKit
set_option linter.unusedVariables false
set_option linter.unusedSimpArgs false

theorem fsO_some {n : Nat} : ∀ (f a : Nat) (x : Nat × Nat), fsO n f a = some x → x.1 * x.1 + x.2 * x.2 = n
  | 0, a, x, h => by cases h
  | f + 1, a, x, h => by
    rw [fsO] at h
    split at h
    · rename_i h1
      split at h
      · rename_i h2
        injection h with h
        subst h
        have h3 := beq_iff_eq.1 h2
        show a * a + rtF (n - a * a) * rtF (n - a * a) = n
        omega
      · exact fsO_some f (a + 1) x h
    · cases h
theorem q3_fsO {n a b : Nat} (h9 : n ≤ 5000) (hab : a * a + b * b ≤ n) : ∀ (e c : Nat), c + e = 72 → q3 n a b (100 - c) c = (fsO (n - a * a - b * b) (500 - c) c).map fun x => [(a : Int), (b : Int), (x.1 : Int), (x.2 : Int)]
  | 0, c, he => by
    have hc : c = 72 := by omega
    have h1 : ¬ a * a + b * b + 2 * (72 * 72) ≤ n := by omega
    have h2 : ¬ 2 * (72 * 72) ≤ n - a * a - b * b := by omega
    rw [hc, fsO_stop (by omega) h2, show (100 - 72 : Nat) = 27 + 1 from rfl, q3, if_neg h1]
    rfl
  | e + 1, c, he => by
    have ih := q3_fsO h9 hab e (c + 1) (by omega)
    by_cases h1 : a * a + b * b + 2 * (c * c) ≤ n
    · have h1b : 2 * (c * c) ≤ n - a * a - b * b := by omega
      by_cases h2 : rtF (q3R n a b c) * rtF (q3R n a b c) = q3R n a b c
      · have h2b : tsB (n - a * a - b * b) c = true := by rw [tsB, beq_iff_eq]; exact h2
        rw [q3_hit (by omega) h1 h2, fsO_hit (by omega) h1b h2b]
        rfl
      · have h2b : tsB (n - a * a - b * b) c = false := beq_eq_false_iff_ne.2 h2
        rw [q3_miss (by omega) h1 h2, fsO_miss (by omega) h1b h2b]
        exact ih
    · have h1b : ¬ 2 * (c * c) ≤ n - a * a - b * b := by omega
      rw [q3_stop (by omega) h1, fsO_stop (by omega) h1b]
      rfl
theorem fsP_some {n f a : Nat} {x : Nat × Nat} (hn : 1 ≤ n) (h : fsO n f a = some x) : fsP (fsO n f a) = x ∧ ¬ (x.1 = 0 ∧ x.2 = 0) := by
  refine ⟨by rw [h]; rfl, fun hh => ?_⟩
  have := fsO_some f a x h
  rw [hh.1, hh.2] at this
  omega
theorem q3_len {n a b : Nat} : ∀ (f c : Nat) (l : List Int), q3 n a b f c = some l → l.length = 4
  | 0, c, l, h => by cases h
  | f + 1, c, l, h => by
    rw [q3] at h
    split at h
    · split at h
      · injection h with h; subst h; rfl
      · exact q3_len f (c + 1) l h
    · cases h
theorem q2_len {n a : Nat} : ∀ (f b : Nat) (l : List Int), q2 n a f b = some l → l.length = 4
  | 0, b, l, h => by cases h
  | f + 1, b, l, h => by
    rw [q2] at h
    split at h
    · cases h3 : q3 n a b (100 - b) b with
      | some x => rw [h3] at h; injection h with h; subst h; exact q3_len _ _ _ h3
      | none => rw [h3] at h; exact q2_len f (b + 1) l h
    · cases h
theorem q1_len {n : Nat} : ∀ (f a : Nat) (l : List Int), q1 n f a = some l → l.length = 4
  | 0, a, l, h => by cases h
  | f + 1, a, l, h => by
    rw [q1] at h
    split at h
    · cases h3 : q2 n a (100 - a) a with
      | some x => rw [h3] at h; injection h with h; subst h; exact q2_len _ _ _ h3
      | none => rw [h3] at h; exact q1_len f (a + 1) l h
    · cases h
theorem q4V_len (n : Int) : (q4V n).length ≤ 1048576 := by
  cases h : q4Ok n with
  | false => rw [q4V_no h]; exact Nat.zero_le _
  | true =>
    rw [q4V, h, if_pos rfl]
    cases h2 : q1 n.toNat 100 0 with
    | none => exact Nat.zero_le _
    | some l => have := q1_len _ _ _ h2; show l.length ≤ _; omega

end Go.Proofs.Ytkpililllihgcab
