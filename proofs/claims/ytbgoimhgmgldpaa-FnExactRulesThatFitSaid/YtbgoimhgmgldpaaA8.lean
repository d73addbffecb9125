import Derived.Test.YtbgoimhgmgldpaaA7
namespace Go.Proofs.Ytbgoimhgmgldpaa
open Go.RowKit
set_option linter.unusedVariables false
set_option linter.unusedSimpArgs false

def leftArr (rs : List (Int × Int)) : Array Value := ((List.range 601).map fun j : Nat => Value.bool (leftF rs j)).toArray
theorem leftArr_size (rs : List (Int × Int)) : (leftArr rs).size = 601 := by unfold leftArr; rw [List.size_toArray, List.length_map, List.length_range]
theorem leftArr_get (rs : List (Int × Int)) {j : Nat} (h : j < 601) : (leftArr rs)[j]? = some (.bool (leftF rs j)) := by
  unfold leftArr
  rw [List.getElem?_toArray, List.getElem?_map, List.getElem?_range h]
  rfl
theorem leftArr_of {rs : List (Int × Int)} {cur : Array Value} (hs : cur.size = 601) (h : ∀ j, j < 601 → cur[j]? = some (.bool (leftF rs j))) : cur = leftArr rs := by
  apply Array.ext_getElem?
  intro j
  by_cases hj : j < 601
  · rw [h j hj, leftArr_get rs hj]
  · rw [Array.getElem?_eq_none (by omega), Array.getElem?_eq_none (by rw [leftArr_size]; omega)]
theorem leftArr_one (rs : List (Int × Int)) : (leftArr rs).all (·.oneCell') = true := by
  rw [Array.all_eq_true_iff_forall_mem]
  intro x hx
  unfold leftArr at hx
  simp only [List.mem_toArray, List.mem_map] at hx
  obtain ⟨j, _, rfl⟩ := hx
  rfl


end Go.Proofs.Ytbgoimhgmgldpaa
