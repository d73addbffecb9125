import Derived.Test.YtaapfapejekkfaaE1
namespace Go.Proofs.Ytaapfapejekkfaa
open Go.RowKit
set_option linter.unusedVariables false
set_option linter.unusedSimpArgs false

theorem ivL_take {xs : List Int} {k j : Nat} (h : j < k) : ivL (xs.take k) j = ivL xs j := by
  simp [ivL, List.getD_eq_getElem?_getD, List.getElem?_take, h]
theorem Il.take {w : World} {A : Option Addr} {xs : List Int} (h : Il w A xs) (k : Nat) : Il w A (xs.take k) := by
  intro hp
  rw [List.length_take] at hp
  obtain ⟨b, off, e, hb, hr⟩ := h (by omega)
  refine ⟨b, off, e, hb, fun j hj => ?_⟩
  rw [List.length_take] at hj
  rw [hr j (by omega), ivL_take (by omega)]

end Go.Proofs.Ytaapfapejekkfaa
