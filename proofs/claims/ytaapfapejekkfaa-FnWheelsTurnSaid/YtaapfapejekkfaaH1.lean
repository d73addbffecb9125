import Derived.Test.YtaapfapejekkfaaE1
namespace Go.Proofs.Ytaapfapejekkfaa
open Go.RowKit
set_option linter.unusedVariables false
set_option linter.unusedSimpArgs false

/-- A slice of ints that is the front of a row that the call owns. -/
def HeadI (w : World) (B : Nat) (v : Value) (xs : List Int) : Prop :=
  ∃ A c C zs, v = .slice A xs.length c ∧ OwnI w B (.slice A (xs ++ zs).length C) (xs ++ zs)
theorem HeadI.of_own {w : World} {B : Nat} {v : Value} {xs : List Int} (h : OwnI w B v xs) : HeadI w B v xs := by
  obtain ⟨A, c, rfl⟩ := h.shape
  exact ⟨A, c, c, [], rfl, by simpa using h⟩
theorem HeadI.below {w w' : World} {B : Nat} {v : Value} {xs : List Int} (h : HeadI w B v xs) (hb : Below w.heap.size w w') : HeadI w' B v xs := by
  obtain ⟨A, c, C, zs, e, o⟩ := h
  exact ⟨A, c, C, zs, e, o.below hb⟩
theorem HeadI.mono {w : World} {B B' : Nat} {v : Value} {xs : List Int} (h : HeadI w B v xs) (hB : B' ≤ B) : HeadI w B' v xs := by
  obtain ⟨A, c, C, zs, e, o⟩ := h
  exact ⟨A, c, C, zs, e, o.mono hB⟩
theorem HeadI.nil (w : World) (B : Nat) : HeadI w B (.slice none 0 0) [] := HeadI.of_own (OwnI.nil _ _)
theorem HeadI.shape {w : World} {B : Nat} {v : Value} {xs : List Int} (h : HeadI w B v xs) : ∃ A c, v = .slice A xs.length c := by
  obtain ⟨A, c, C, zs, e, o⟩ := h
  exact ⟨A, c, e⟩
theorem HeadI.kept {w w' : World} {B g : Nat} {v : Value} {xs : List Int} (h : HeadI w B v xs) (hg : w.grownBy w' (some g)) (hB : g < B) : HeadI w' B v xs := by
  obtain ⟨A, c, C, zs, e, o⟩ := h
  exact ⟨A, c, C, zs, e, o.kept hg hB⟩
theorem HeadI.lt {w : World} {B : Nat} {v : Value} {xs : List Int} (h : HeadI w B v xs) : ∀ k, v.ownBlock = some k → B ≤ k ∧ k < w.heap.size := by
  obtain ⟨A, c, C, zs, rfl, o⟩ := h
  intro k hk
  exact World.ownsRow.lt o k (by cases A with | none => cases hk | some a => exact hk)
theorem Il_front {w : World} {A : Option Addr} {xs zs : List Int} (h : Il w A (xs ++ zs)) : Il w A xs := by
  intro hp
  obtain ⟨b, off, e, hb, hc⟩ := h (by simp; omega)
  refine ⟨b, off, e, hb, fun k hk => ?_⟩
  rw [hc k (by simp; omega)]
  simp [ivL, List.getElem?_append, hk]
theorem Il_of_head {w : World} {B n c : Nat} {A : Option Addr} {xs : List Int} (h : HeadI w B (.slice A n c) xs) : Il w A xs := by
  obtain ⟨A', c', C, zs, e, o⟩ := h
  injection e with e1 e2 e3
  subst e1
  exact Il_front (Il_of_own o)
theorem OwnI.setB {w : World} {B : Nat} {v : Value} {xs : List Int} (h : OwnI w B v xs) {a : Addr} (ha : a.block < B) (u : Value) : OwnI (w.setCell a u) B v xs := ownsRow_setCell_below h ha u
theorem HeadI.setB {w : World} {B : Nat} {v : Value} {xs : List Int} (h : HeadI w B v xs) {a : Addr} (ha : a.block < B) (u : Value) : HeadI (w.setCell a u) B v xs := by
  obtain ⟨A, c, C, zs, e, o⟩ := h
  exact ⟨A, c, C, zs, e, o.setB ha u⟩
/-- The front of the row holds 1, 2, 3, .. . -/
def HMarked (w : World) (B : Nat) (v : Value) (n : Nat) : Prop :=
  ∃ A c N C cells, v = .slice A n c ∧ n ≤ N ∧ w.ownsRow B 3 1 (.slice A N C) N cells ∧ ∀ j, j < n → cells[j]? = some (.int .i64 (1 + (j : Int)))
theorem HMarked.below {w w' : World} {B : Nat} {v : Value} {n : Nat} (h : HMarked w B v n) (hb : Below w.heap.size w w') : HMarked w' B v n := by
  obtain ⟨A, c, N, C, cells, h1, h2, h3, h4⟩ := h
  exact ⟨A, c, N, C, cells, h1, h2, own_below h3 hb, h4⟩


end Go.Proofs.Ytaapfapejekkfaa
