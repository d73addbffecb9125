import Derived.Test.YtapjbppkekigaabSh
import Derived.Test.YtapjbppkekigaabN0
import Derived.Sort.OwnSortedInts
namespace Go.Proofs.Ytapjbppkekigaab
open Go.RowKit
set_option linter.unusedVariables false
set_option linter.unusedSimpArgs false

theorem own_block {w : World} {B g N C : Nat} {xs : List Int} (h : OwnI w B (.slice (some ⟨g, 0, none⟩) N C) xs) : ∃ cur : Array Value, w.heap[g]? = some (.cells cur 3 (0, 0)) ∧ B ≤ g ∧ xs.length ≤ C ∧ C ≤ maxLen ∧ cur.size = C * 1 ∧ cur.toList.take xs.length = xs.map (Value.int .i64) := by
  rcases h.2 with ⟨e, _⟩ | ⟨g', cap, cur, e, h1, h2, h3, h4, h5, h6⟩
  · cases e
  · injection e with e1 e2 e3
    injection e1 with e1
    injection e1 with e1
    subst e1 e3
    exact ⟨cur, h2, h1, h3, h4, h5, by simpa using h6⟩
/-- slices.Sort at a row that the call owns. -/
theorem sort_own {w : World} {B g C : Nat} {xs : List Int} (h : OwnI w B (.slice (some ⟨g, 0, none⟩) xs.length C) xs) (hl : xs.length ≤ 1048576) :
    Calls Try.prog 48 #[.slice (some ⟨g, 0, none⟩) xs.length C] w fun e w' => e = .returned (.tuple #[]) ∧ OwnI w' B (.slice (some ⟨g, 0, none⟩) xs.length C) (xs.mergeSort fun x y => decide (x ≤ y)) ∧ w.grownBy w' (some g) := by
  obtain ⟨cur, hb, hB, h1, h2, h3, ht⟩ := own_block h
  refine (Try.slices_Sort_int g 0 C xs w (holds_of_blockI hb ht) (Array.getElem?_eq_some_iff.1 hb).1 (by omega)).mono ?_
  rintro e w' ⟨rfl, n, os, rfl⟩
  have hlen : (xs.mergeSort fun x y => decide (x ≤ y)).length = xs.length := List.length_mergeSort _
  refine ⟨rfl, ?_, grownBy_sortedI _⟩
  have := ownsRow_sortedI (n := n) (os := os) (ss := xs) (ts := xs.mergeSort fun x y => decide (x ≤ y)) hlen hB hb h1 h2 h3
  show World.ownsRow _ _ _ _ _ _ _
  rw [hlen]
  exact this
end Go.Proofs.Ytapjbppkekigaab
