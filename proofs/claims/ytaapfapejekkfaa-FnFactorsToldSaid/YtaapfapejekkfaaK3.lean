import Derived.Test.YtaapfapejekkfaaK2
import Derived.Test.YtaapfapejekkfaaE1
import Derived.Deep.Matrix
namespace Go.Proofs.Ytaapfapejekkfaa
open Go.ChangeShapes Go.WideShapes Go.ChangeAt Go.RowKit Go.Deep
set_option maxRecDepth 100000
set_option linter.unusedVariables false
set_option linter.unusedSimpArgs false



section
variable {H : Type} {enc : TypeId × Value → H} {W : World} {base b0 : Nat} {r : Reach} {held : Bool}
/-- An argument of type [][]int reads as lists of numbers. -/
theorem open_intLL {v : Value} {d : DataW H} {p : List MemPlace} (hval : Value.okWide Try.prog W r b0 39 v) (h : DataW.Trod enc Try.prog W base (fun _ => true) held 39 v d p) :
    ∃ A n c ps, v = .slice A n c ∧ n = ps.length ∧ n ≤ 9223372036854775807 ∧ (∀ i, i < ps.length → (psL ps i).length ≤ 9223372036854775807) ∧ Lr W A ps := by
  obtain ⟨a0, len, cap, rfl⟩ := okWide_slice Try.underlying39 hval
  obtain ⟨fuel, hf⟩ := h
  rcases open_int_rows Try.underlying39 Try.underlying48 Try.underlying3 (by kernel_rfl) (by kernel_rfl) hf with ⟨hcs, _⟩ | ⟨a, l, c, A, L, C, Z, hcs, _, hl, hm, _, hx⟩
  · simp [Value.cells] at hcs
    obtain ⟨rfl, rfl, rfl⟩ := hcs
    exact ⟨none, 0, 0, [], rfl, rfl, by omega, fun i h => by simp at h, fun h => by simp at h⟩
  · simp [Value.cells] at hcs
    obtain ⟨rfl, rfl, rfl⟩ := hcs
    have hm' : len ≤ 9223372036854775807 := by unfold maxLen at hm; omega
    have hps : ∀ i, i < len → psL ((List.range len).map fun i => (Z i).take (L i)) i = (Z i).take (L i) := fun i hi => by simp [psL, hi]
    have hLz : ∀ i, i < len → ((Z i).take (L i)).length = L i := fun i hi => by
      obtain ⟨_, h1, h2, h3, _⟩ := hx i (by omega)
      rw [List.length_take, h3]
      omega
    refine ⟨some a, len, cap, (List.range len).map fun i => (Z i).take (L i), rfl, by simp, hm', fun i hi => ?_, fun hp => ?_⟩
    · have hi' : i < len := by simpa using hi
      obtain ⟨_, h1, h2, _⟩ := hx i (by omega)
      rw [hps i hi', hLz i hi']
      unfold maxLen at h2
      omega
    · have hlen : 0 < len := by simpa using hp
      obtain ⟨c0, _⟩ := hx 0 (by omega)
      obtain ⟨b, off, rfl⟩ := addr_plain c0
      refine ⟨b, off, rfl, World.block_lt_of_cell? W _ (by simpa [add_plain] using c0), fun i hi => ?_⟩
      have hi' : i < len := by simpa using hi
      obtain ⟨g0, h1, h2, h3, h4, h5, h6⟩ := hx i (by omega)
      rw [add_plain] at g0
      rw [hps i hi']
      refine ⟨A i, C i, by rw [g0, hLz i hi'], fun hp2 => ?_⟩
      rw [hLz i hi'] at hp2
      cases hA : A i with
      | none => have := h5 hA; omega
      | some a' =>
        obtain ⟨_, hc⟩ := h6 a' hA
        have hc0 := hc 0 (by omega)
        obtain ⟨b', off', rfl⟩ := addr_plain hc0
        refine ⟨b', off', rfl, World.block_lt_of_cell? W _ (by simpa [add_plain] using hc0), fun k hk => ?_⟩
        rw [hLz i hi'] at hk
        have := hc k (by omega)
        rw [add_plain] at this
        rw [this, ivL]
        simp [List.getD_eq_getElem?_getD, List.getElem?_take, hk]
end

end Go.Proofs.Ytaapfapejekkfaa
