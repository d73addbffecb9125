import Derived.Test.YtjoklbkbggdlgaaE0
namespace Go.Proofs.Ytjoklbkbggdlgaa
open Go.RowKit
set_option linter.unusedVariables false
set_option linter.unusedSimpArgs false


def okR (e r : Int) : Bool := decide (2 ≤ e ∧ e ≤ 60 ∧ 0 ≤ r ∧ r < e)
theorem okR_true {e r : Int} : okR e r = true ↔ 2 ≤ e ∧ e ≤ 60 ∧ 0 ≤ r ∧ r < e := by simp [okR]
theorem okR_false {e r : Int} : okR e r = false ↔ ¬ (2 ≤ e ∧ e ≤ 60 ∧ 0 ≤ r ∧ r < e) := by simp only [okR, decide_eq_false_iff_not]

set_option maxHeartbeats 400000 in
theorem siRule_c (e r : Int) (w : World) :
    Calls Try.prog 65 #[.agg #[.int .i64 e, .int .i64 r]] w fun en w' => en = .returned (.bool (okR e r)) ∧ Below w.heap.size w w' := by
  by_cases h1 : 2 ≤ e ∧ e ≤ 60
  · have hA : inB e 2 60 = true := inB_true.2 h1
    by_cases h2 : 0 ≤ r ∧ r < e
    · rw [okR_true.2 ⟨h1.1, h1.2, h2.1, h2.2⟩]
      have hB : inB r 0 (e - 1) = true := inB_true.2 (by omega)
      obtain ⟨h3, h4⟩ := h1
      go_enter Try.func65, Try.ntmps65
      go_wp2_with (go_at_call 63; refine (l1In_c _ _ _ _).mono ?_; rintro e w' ⟨rfl, rfl⟩)
      go_ret
      exact ⟨rfl, (Below.refl _ _).alloc (Nat.le_refl _) _⟩
    · rw [okR_false.2 (by omega)]
      have hB : inB r 0 (e - 1) = false := inB_false.2 (by omega)
      obtain ⟨h3, h4⟩ := h1
      go_enter Try.func65, Try.ntmps65
      go_wp2_with (go_at_call 63; refine (l1In_c _ _ _ _).mono ?_; rintro e w' ⟨rfl, rfl⟩)
      go_ret
      exact ⟨rfl, (Below.refl _ _).alloc (Nat.le_refl _) _⟩
  · rw [okR_false.2 (by omega)]
    have hA : inB e 2 60 = false := inB_false.2 (by omega)
    go_enter Try.func65, Try.ntmps65
    go_wp2_with (go_at_call 63; refine (l1In_c _ _ _ _).mono ?_; rintro e w' ⟨rfl, rfl⟩)
    go_ret
    exact ⟨rfl, (Below.refl _ _).alloc (Nat.le_refl _) _⟩

end Go.Proofs.Ytjoklbkbggdlgaa
