import Derived.Test.YtgkciiklgadgkaaE0
namespace Go.Proofs.Ytgkciiklgadgkaa
open Go.RowKit
set_option linter.unusedVariables false
set_option linter.unusedSimpArgs false

/-! Slices of slices of ints. -/
def psL (ps : List (List Int)) (i : Nat) : List Int := ps.getD i []
theorem psL_get {ps : List (List Int)} {i : Nat} (h : i < ps.length) : ps[i] = psL ps i := by simp [psL, h]
theorem psL_app_lt {ps : List (List Int)} {x : List Int} {i : Nat} (h : i < ps.length) : psL (ps ++ [x]) i = psL ps i := by
  simp [psL, List.getD_eq_getElem?_getD, List.getElem?_append_left h]
theorem psL_app_eq {ps : List (List Int)} {x : List Int} : psL (ps ++ [x]) ps.length = x := by
  simp [psL, List.getD_eq_getElem?_getD]
/-- How many numbers the first i lists have. -/
def sumL (ps : List (List Int)) (i : Nat) : Nat := ((ps.take i).map List.length).sum
theorem sumL_zero (ps : List (List Int)) : sumL ps 0 = 0 := rfl
theorem sumL_succ {ps : List (List Int)} {i : Nat} (h : i < ps.length) : sumL ps (i + 1) = sumL ps i + (psL ps i).length := by
  rw [sumL, sumL, List.take_succ_eq_append_getElem h, psL_get h]
  simp
theorem sumL_le (ps : List (List Int)) : ∀ (d i : Nat), i + d = ps.length → sumL ps i ≤ sumL ps ps.length
  | 0, i, h => by rw [show i = ps.length by omega]; exact Nat.le_refl _
  | d + 1, i, h => by
    have := sumL_le ps d (i + 1) (by omega)
    have := sumL_succ (ps := ps) (i := i) (by omega)
    omega
theorem sumL_len {ps : List (List Int)} {i : Nat} (h : i < ps.length) : sumL ps i + (psL ps i).length ≤ sumL ps ps.length := by
  have h1 := sumL_succ h
  have h2 := sumL_le ps (ps.length - (i + 1)) (i + 1) (by omega)
  omega



/-- The row that v owns holds k, k + 1, k + 2, .. . -/
def MarkedK (w : World) (B : Nat) (e : TypeId) (v : Value) (n : Nat) (k : Int) : Prop :=
  ∃ cells, w.ownsRow B e 1 v n cells ∧ ∀ j, j < n → cells[j]? = some (.int .i64 (k + (j : Int)))
theorem MarkedK.below {w w' : World} {B : Nat} {e : TypeId} {v : Value} {n : Nat} {k : Int} (h : MarkedK w B e v n k) (hb : Below w.heap.size w w') : MarkedK w' B e v n k := by
  obtain ⟨cells, h1, h2⟩ := h
  exact ⟨cells, own_below h1 hb, h2⟩

end Go.Proofs.Ytgkciiklgadgkaa
