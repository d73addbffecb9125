import Derived.Test.YtaapfapejekkfaaK1
namespace Go.Proofs.Ytaapfapejekkfaa
open Go.RowKit
set_option linter.unusedVariables false
set_option linter.unusedSimpArgs false

theorem own_shape {w : World} {B : Nat} {e : TypeId} {size : Nat} {v : Value} {n : Nat} {xs : List Value} (h : w.ownsRow B e size v n xs) : ∃ A c, v = .slice A n c := by
  rcases h.2 with ⟨e, h0⟩ | ⟨g, cap, cur, e, _⟩
  · exact ⟨none, 0, by rw [e, h0]⟩
  · exact ⟨_, _, e⟩
/-- The rows of a slice of slices hold k, k + 1, k + 2, .. one behind the other. -/
def MarkedLL (w : World) (B : Nat) (v : Value) (ps : List (List Int)) (k : Int) : Prop :=
  ∃ vs : List Value, w.ownsRow B 48 1 v ps.length vs ∧ ∀ i, i < ps.length → ∃ u, vs[i]? = some u ∧ MarkedK w B 3 u (psL ps i).length (k + (sumL ps i : Int))
theorem MarkedLL.below {w w' : World} {B : Nat} {v : Value} {ps : List (List Int)} {k : Int} (h : MarkedLL w B v ps k) (hb : Below w.heap.size w w') : MarkedLL w' B v ps k := by
  obtain ⟨vs, h1, h2⟩ := h
  exact ⟨vs, own_below h1 hb, fun i hi => by obtain ⟨u, a, b⟩ := h2 i hi; exact ⟨u, a, b.below hb⟩⟩


end Go.Proofs.Ytaapfapejekkfaa
