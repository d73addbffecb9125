import Derived.Test.YtehppjdiegoeeaaE1
namespace Go.Proofs.Ytehppjdiegoeeaa
open Go.RowKit
set_option linter.unusedVariables false
set_option linter.unusedSimpArgs false

def mostB (n : Int) : Bool := inB n 0 600
theorem mostB_true {n : Int} : mostB n = true ↔ 0 ≤ n ∧ n ≤ 600 := inB_true
theorem isMost_c (n : Int) (w : World) :
    Calls Try.prog 50 #[.int .i64 n] w fun en w' => en = .returned (.bool (mostB n)) ∧ w = w' := by
  by_cases h1 : 0 ≤ n
  · by_cases h2 : n ≤ 600
    · rw [show mostB n = true from inB_true.2 ⟨h1, h2⟩]
      go_enter Try.func50, Try.ntmps50
      go_wp2
      go_ret
      exact ⟨rfl, rfl⟩
    · rw [show mostB n = false from inB_false.2 (by omega)]
      go_enter Try.func50, Try.ntmps50
      go_wp2
      go_ret
      exact ⟨rfl, rfl⟩
  · rw [show mostB n = false from inB_false.2 (by omega)]
    go_enter Try.func50, Try.ntmps50
    go_wp2
    go_ret
    exact ⟨rfl, rfl⟩

end Go.Proofs.Ytehppjdiegoeeaa
