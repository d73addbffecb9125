import Derived.Test.YtjoklbkbggdlgaaA1
import Derived.StillTailTactics
namespace Go.Proofs.Ytjoklbkbggdlgaa
open Go.RowKit
set_option linter.unusedVariables false
set_option linter.unusedSimpArgs false


def sameR (e r e2 r2 : Int) : Bool := decide (e = e2 ∧ r = r2)
theorem sameR_true {e r e2 r2 : Int} : sameR e r e2 r2 = true ↔ e = e2 ∧ r = r2 := by simp [sameR]
theorem sameR_false {e r e2 r2 : Int} : sameR e r e2 r2 = false ↔ ¬ (e = e2 ∧ r = r2) := by simp only [sameR, decide_eq_false_iff_not]



def Rl (w : World) (A : Option Addr) (rs : List (Int × Int)) : Prop :=
  0 < rs.length → ∃ b off, A = some ⟨b, off, none⟩ ∧ b < w.heap.size ∧ RulesAt w b off rs

def okEq (rs ss : List (Int × Int)) (k : Nat) : Bool := sameR (evL rs k) (reL rs k) (evL ss k) (reL ss k)
def eqL (rs ss : List (Int × Int)) : Bool := decide (rs = ss)
theorem eqL_true {rs ss : List (Int × Int)} (hl : rs.length = ss.length) (h : ∀ k, k < rs.length → okEq rs ss k = true) : eqL rs ss = true := by
  refine decide_eq_true (List.ext_getElem hl fun k h1 h2 => ?_)
  have := sameR_true.1 (h k h1)
  simp only [evL, reL, List.getD_eq_getElem?_getD, List.getElem?_eq_getElem h1, List.getElem?_eq_getElem h2, Option.getD_some] at this
  exact Prod.ext this.1 this.2
theorem eqL_false {rs ss : List (Int × Int)} (h : ¬ rs.length = ss.length) : eqL rs ss = false := decide_eq_false fun e => h (by rw [e])
theorem eqL_false' {rs ss : List (Int × Int)} {k : Nat} (h : okEq rs ss k = false) : eqL rs ss = false := decide_eq_false fun e => by
  subst e
  rw [okEq, sameR_true.2 ⟨rfl, rfl⟩] at h
  cases h


end Go.Proofs.Ytjoklbkbggdlgaa
