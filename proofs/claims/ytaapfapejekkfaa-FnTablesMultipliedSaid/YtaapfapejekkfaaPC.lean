import Derived.Test.YtaapfapejekkfaaE0
namespace Go.Proofs.Ytaapfapejekkfaa
open Go.RowKit
set_option linter.unusedVariables false
set_option linter.unusedSimpArgs false

def tdV (V : Nat → Int) (n : Int) (M : Nat) : Int := if inB n 1 (M : Int) then V n.toNat else 0
theorem tdV_no {V : Nat → Int} {n : Int} {M : Nat} (h : inB n 1 (M : Int) = false) : tdV V n M = 0 := by rw [tdV, h]; rfl
theorem tdV_yes {V : Nat → Int} {n M : Nat} (h : inB (n : Int) 1 (M : Int) = true) : tdV V (n : Int) M = V n := by rw [tdV, h, Int.toNat_natCast]; rfl
def tdB (V : Nat → Bool) (n : Int) (M : Nat) : Bool := inB n 1 (M : Int) && V n.toNat
theorem tdB_no {V : Nat → Bool} {n : Int} {M : Nat} (h : inB n 1 (M : Int) = false) : tdB V n M = false := by rw [tdB, h]; rfl
theorem tdB_yes {V : Nat → Bool} {n M : Nat} (h : inB (n : Int) 1 (M : Int) = true) : tdB V (n : Int) M = V n := by rw [tdB, h, Int.toNat_natCast]; rfl
end Go.Proofs.Ytaapfapejekkfaa
