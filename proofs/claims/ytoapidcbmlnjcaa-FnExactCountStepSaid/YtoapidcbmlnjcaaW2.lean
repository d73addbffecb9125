import Derived.Test.YtoapidcbmlnjcaaW1
namespace Go.Proofs.Ytoapidcbmlnjcaa
open Go.RowKit
set_option linter.unusedVariables false
set_option linter.unusedSimpArgs false

theorem csV_len (rs : List (Int × Int)) : csV rs = ((spV rs).length : Int) := by
  cases h : whB rs with
  | false => rw [csV_no h, spV_no h]; rfl
  | true => rw [csV_yes h, spV_yes h]

theorem WheelV.parts {w : World} {B : Nat} {v : Value} {rs : List (Int × Int)} (h : WheelV w B v rs) : ∃ A1 c1 A2 c2, v = .agg #[.int .i64 (whP rs : Int), .slice A1 (spV rs).length c1, .slice A2 (stV rs).length c2] ∧ HeadI w B (.slice A1 (spV rs).length c1) (spV rs) ∧ OwnI w B (.slice A2 (stV rs).length c2) (stV rs) := by
  obtain ⟨vs, vt, rfl, hh, ht⟩ := h
  obtain ⟨A1, c1, rfl⟩ := hh.shape
  obtain ⟨A2, c2, rfl⟩ := ht.shape
  exact ⟨A1, c1, A2, c2, rfl, hh, ht⟩





end Go.Proofs.Ytoapidcbmlnjcaa
