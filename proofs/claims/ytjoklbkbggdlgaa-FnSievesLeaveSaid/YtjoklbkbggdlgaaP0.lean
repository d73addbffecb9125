import Derived.Test.YtjoklbkbggdlgaaE1
namespace Go.Proofs.Ytjoklbkbggdlgaa
open Go.RowKit
set_option linter.unusedVariables false
set_option linter.unusedSimpArgs false

def mostB (n : Int) : Bool := inB n 0 600
theorem mostB_true {n : Int} : mostB n = true ↔ 0 ≤ n ∧ n ≤ 600 := inB_true
theorem isMost_c (n : Int) (w : World) :
    Calls Try.prog 48 #[.int .i64 n] w fun en w' => en = .returned (.bool (mostB n)) ∧ w = w' := by
  by_cases h1 : 0 ≤ n
  · by_cases h2 : n ≤ 600
    · rw [show mostB n = true from inB_true.2 ⟨h1, h2⟩]
      go_enter Try.func48, Try.ntmps48
      go_wp2
      go_ret
      exact ⟨rfl, rfl⟩
    · rw [show mostB n = false from inB_false.2 (by omega)]
      go_enter Try.func48, Try.ntmps48
      go_wp2
      go_ret
      exact ⟨rfl, rfl⟩
  · rw [show mostB n = false from inB_false.2 (by omega)]
    go_enter Try.func48, Try.ntmps48
    go_wp2
    go_ret
    exact ⟨rfl, rfl⟩

end Go.Proofs.Ytjoklbkbggdlgaa
