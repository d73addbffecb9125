import Derived.Test.YtjoklbkbggdlgaaA2
namespace Go.Proofs.Ytjoklbkbggdlgaa
open Go.RowKit
set_option linter.unusedVariables false
set_option linter.unusedSimpArgs false

theorem info_R : (Try.prog.info? 39).map (fun i => (i.zero, i.size, i.bytes)) = some (some (.agg #[.int .i64 0, .int .i64 0]), 2, 16) := by kernel_rfl




def cellsR (rs : List (Int × Int)) : List Value := rs.flatMap fun r => [.int .i64 r.1, .int .i64 r.2]
theorem cellsR_length (rs : List (Int × Int)) : (cellsR rs).length = rs.length * 2 := by
  induction rs with
  | nil => rfl
  | cons r rs ih => simp only [cellsR, List.flatMap_cons, List.length_append, List.length_cons, List.length_nil] at ih ⊢; omega
theorem cellsR_get (rs : List (Int × Int)) : ∀ k, k < rs.length → (cellsR rs)[k * 2]? = some (.int .i64 (evL rs k)) ∧ (cellsR rs)[k * 2 + 1]? = some (.int .i64 (reL rs k)) := by
  induction rs with
  | nil => intro k h; simp at h
  | cons r rs ih =>
    intro k h
    cases k with
    | zero => exact ⟨rfl, rfl⟩
    | succ k =>
      have := ih k (by simpa using h)
      have e1 : (k + 1) * 2 = k * 2 + 2 := by omega
      rw [e1]
      exact this
theorem evL_ext {rs : List (Int × Int)} {k : Nat} (h : k < rs.length) : rs[k] = (evL rs k, reL rs k) := by
  simp [evL, reL, List.getElem?_eq_getElem h]
/-- A list of cells that holds the rules one by one is cellsR. -/
theorem cellsR_of {rs : List (Int × Int)} {xs : List Value} (hl : xs.length = rs.length * 2) (h : ∀ k, k < rs.length → xs[k * 2]? = some (.int .i64 (evL rs k)) ∧ xs[k * 2 + 1]? = some (.int .i64 (reL rs k))) : xs = cellsR rs := by
  apply List.ext_getElem?
  intro i
  by_cases hi : i < rs.length * 2
  · have h1 := h (i / 2) (by omega)
    have h2 := cellsR_get rs (i / 2) (by omega)
    rcases Nat.mod_two_eq_zero_or_one i with he | he
    · have e : i = i / 2 * 2 := by omega
      rw [e, h1.1, h2.1]
    · have e : i = i / 2 * 2 + 1 := by omega
      rw [e, h1.2, h2.2]
  · rw [List.getElem?_eq_none (by omega), List.getElem?_eq_none (by rw [cellsR_length]; omega)]

def OwnR (w : World) (B : Nat) (v : Value) (rs : List (Int × Int)) : Prop := w.ownsRow B 39 2 v rs.length (cellsR rs)



end Go.Proofs.Ytjoklbkbggdlgaa
