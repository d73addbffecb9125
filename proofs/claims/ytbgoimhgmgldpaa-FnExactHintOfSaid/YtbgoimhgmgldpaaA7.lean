import Derived.Test.YtbgoimhgmgldpaaA6
import Derived.Test.YtbgoimhgmgldpaaP0
namespace Go.Proofs.Ytbgoimhgmgldpaa
open Go.RowKit
set_option linter.unusedVariables false
set_option linter.unusedSimpArgs false

def okM (rs : List (Int × Int)) (n : Int) : Bool := goodL rs && mostB n

/-- Of 1, .., k those with p, in order. -/
def upF (p : Int → Bool) (k : Nat) : List Int := ((List.range k).map fun i : Nat => (i : Int) + 1).filter p
theorem upF_succ (p : Int → Bool) (k : Nat) : upF p (k + 1) = if p ((k : Int) + 1) = true then upF p k ++ [(k : Int) + 1] else upF p k := by
  simp only [upF, List.range_succ, List.map_append, List.filter_append, List.map_cons, List.map_nil]
  cases h : p ((k : Int) + 1) <;> simp [h]
theorem upF_yes {p : Int → Bool} {k : Nat} (h : p ((k : Int) + 1) = true) : upF p (k + 1) = upF p k ++ [(k : Int) + 1] := by rw [upF_succ, if_pos h]
theorem upF_no {p : Int → Bool} {k : Nat} (h : p ((k : Int) + 1) = false) : upF p (k + 1) = upF p k := by rw [upF_succ, if_neg (by rw [h]; exact Bool.false_ne_true)]
theorem upF_len (p : Int → Bool) (k : Nat) : (upF p k).length ≤ k := Nat.le_trans (List.length_filter_le _ _) (by simp)

theorem OwnR.below {w w' : World} {B : Nat} {v : Value} {rs : List (Int × Int)} (h : OwnR w B v rs) (hb : Below w.heap.size w w') : OwnR w' B v rs := own_below h hb



end Go.Proofs.Ytbgoimhgmgldpaa
