import Derived.Test.YtbgoimhgmgldpaaR1
namespace Go.Proofs.Ytbgoimhgmgldpaa
open Go.RowKit
set_option linter.unusedVariables false
set_option linter.unusedSimpArgs false

/-- Whether a rule comes before another one. -/
def lsB (e r e2 r2 : Int) : Bool := decide (e < e2) || (decide (e = e2) && decide (r < r2))
set_option maxRecDepth 100000 in
set_option maxHeartbeats 800000 in
theorem pzLess_c (w : World) (e r e2 r2 : Int) :
    Calls Try.prog 70 #[.agg #[.int .i64 e, .int .i64 r], .agg #[.int .i64 e2, .int .i64 r2]] w fun en w' => en = .returned (.bool (lsB e r e2 r2)) ∧ Below w.heap.size w w' := by
  by_cases h1 : e < e2
  · rw [show lsB e r e2 r2 = true by rw [lsB, decide_eq_true h1]; rfl]
    go_enter Try.func70, Try.ntmps70
    go_wp2
    go_ret
    exact ⟨rfl, ((Below.refl _ _).alloc (Nat.le_refl _) _).alloc (by simp) _⟩
  · by_cases h2 : e = e2
    · subst h2
      by_cases h3 : r < r2
      · rw [show lsB e r e r2 = true by rw [lsB, decide_eq_false h1, decide_eq_true h3, decide_eq_true rfl]; rfl]
        go_enter Try.func70, Try.ntmps70
        go_wp2
        go_ret
        exact ⟨rfl, ((Below.refl _ _).alloc (Nat.le_refl _) _).alloc (by simp) _⟩
      · rw [show lsB e r e r2 = false by rw [lsB, decide_eq_false h1, decide_eq_false h3, Bool.and_false]; rfl]
        have h4 : r2 ≤ r := by omega
        clear h3
        go_enter Try.func70, Try.ntmps70
        go_wp2
        go_ret
        exact ⟨by rw [show decide (r < r2) = false from decide_eq_false (by omega)]; rfl, ((Below.refl _ _).alloc (Nat.le_refl _) _).alloc (by simp) _⟩
    · rw [show lsB e r e2 r2 = false by rw [lsB, decide_eq_false h1, decide_eq_false h2]; rfl]
      have h4 : e2 ≤ e := by omega
      have h5 : (e == e2) = false := beq_eq_false_iff_ne.2 h2
      clear h1
      go_enter Try.func70, Try.ntmps70
      go_wp2
      go_ret
      exact ⟨by rw [show decide (e < e2) = false from decide_eq_false (by omega)]; rfl, ((Below.refl _ _).alloc (Nat.le_refl _) _).alloc (by simp) _⟩

end Go.Proofs.Ytbgoimhgmgldpaa
