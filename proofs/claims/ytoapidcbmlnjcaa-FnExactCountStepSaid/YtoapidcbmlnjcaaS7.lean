import Derived.Test.YtoapidcbmlnjcaaS6
namespace Go.Proofs.Ytoapidcbmlnjcaa
open Go.RowKit
set_option linter.unusedVariables false
set_option linter.unusedSimpArgs false

def stOk (ss : List Int) : Bool := decide (∀ k, k < ss.length → 1 ≤ ivL ss k)
theorem stOk_yes {ss : List Int} (h : ∀ k, k < ss.length → 1 ≤ ivL ss k) : stOk ss = true := decide_eq_true h
theorem stOk_no {ss : List Int} {k : Nat} (hk : k < ss.length) (h : ¬ 1 ≤ ivL ss k) : stOk ss = false := decide_eq_false fun hh => h (hh k hk)
/-- The place of the step j behind spoke i. -/
def frI (rs : List (Int × Int)) (i j : Nat) : Nat := (i + j) % (stA rs).length
/-- Whether the first q of the steps run from spoke i. -/
def frM (rs : List (Int × Int)) (ss : List Int) (i q : Nat) : Bool := (List.range q).all fun j => ivL (stA rs) (frI rs i j) == ivL ss j
theorem frM_succ (rs : List (Int × Int)) (ss : List Int) (i q : Nat) : frM rs ss i (q + 1) = (frM rs ss i q && (ivL (stA rs) (frI rs i q) == ivL ss q)) := by
  rw [frM, List.range_succ, List.all_append]
  simp [frM]
def frD (rs : List (Int × Int)) (ss : List Int) : Nat → Nat → Int × Bool
  | 0, _ => (0, false)
  | f + 1, i => if frM rs ss i ss.length then (ivL (spk rs) i, true) else frD rs ss f (i + 1)
def frX (rs : List (Int × Int)) (ss : List Int) (i : Nat) : Int × Bool := frD rs ss ((stA rs).length - i) i
theorem frX_yes {rs : List (Int × Int)} {ss : List Int} {i : Nat} (hi : i < (stA rs).length) (h : frM rs ss i ss.length = true) : frX rs ss i = (ivL (spk rs) i, true) := by
  rw [frX, show (stA rs).length - i = ((stA rs).length - (i + 1)) + 1 by omega, frD, if_pos h]
theorem frX_no {rs : List (Int × Int)} {ss : List Int} {i : Nat} (hi : i < (stA rs).length) (h : frM rs ss i ss.length = false) : frX rs ss i = frX rs ss (i + 1) := by
  rw [frX, show (stA rs).length - i = ((stA rs).length - (i + 1)) + 1 by omega, frD, if_neg (by rw [h]; exact Bool.false_ne_true), frX]
theorem frX_end {rs : List (Int × Int)} {ss : List Int} {i : Nat} (hi : (stA rs).length ≤ i) : frX rs ss i = (0, false) := by
  rw [frX, show (stA rs).length - i = 0 by omega, frD]
def frP (rs : List (Int × Int)) (ss : List Int) : Bool := whB rs && inB (ss.length : Int) 1 8 && stOk ss
def frR (rs : List (Int × Int)) (ss : List Int) : Int × Bool := if frP rs ss then frX rs ss 0 else (0, false)
theorem frR_no {rs : List (Int × Int)} {ss : List Int} (h : frP rs ss = false) : frR rs ss = (0, false) := by rw [frR, h]; rfl
theorem frR_yes {rs : List (Int × Int)} {ss : List Int} (h : frP rs ss = true) : frR rs ss = frX rs ss 0 := by rw [frR, h]; rfl


end Go.Proofs.Ytoapidcbmlnjcaa
