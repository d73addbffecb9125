import Derived.Test.YtjoklbkbggdlgaaB0
namespace Go.Proofs.Ytjoklbkbggdlgaa
open Go.RowKit
set_option linter.unusedVariables false
set_option linter.unusedSimpArgs false







theorem OwnR.kept {w w' : World} {B g : Nat} {v : Value} {xs : List (Int × Int)} (h : OwnR w B v xs) (hg : w.grownBy w' (some g)) (hB : g < B) : OwnR w' B v xs :=
  World.ownsRow.kept h hg (by
    cases hv : v.ownBlock with
    | none => exact .inl rfl
    | some k => exact .inr fun e => by injection e with e; have := (World.ownsRow.lt h k hv).1; omega)
theorem OwnR.own_n {w : World} {B n : Nat} {v : Value} {rs : List (Int × Int)} (h : OwnR w B v rs) (hn : n = rs.length) : w.ownsRow B 39 2 v n (cellsR rs) := by subst hn; exact h
theorem OwnR.shape {w : World} {B : Nat} {v : Value} {xs : List (Int × Int)} (h : OwnR w B v xs) : ∃ A c, v = .slice A xs.length c := by
  rcases h.2 with ⟨e, h0⟩ | ⟨g, cap, cur, e, _⟩
  · exact ⟨none, 0, by rw [e, h0]⟩
  · exact ⟨_, _, e⟩
theorem OwnR.mono {w : World} {B B' : Nat} {v : Value} {xs : List (Int × Int)} (h : OwnR w B v xs) (hB : B' ≤ B) : OwnR w B' v xs := by
  refine ⟨h.1, ?_⟩
  rcases h.2 with h2 | ⟨g, cap, cur, e, hg, r⟩
  · exact .inl h2
  · exact .inr ⟨g, cap, cur, e, Nat.le_trans hB hg, r⟩
theorem Rl_of_own' {w : World} {B c : Nat} {A : Option Addr} {rs : List (Int × Int)} (h : OwnR w B (.slice A rs.length c) rs) : Rl w A rs := Rl_of_own h rfl

end Go.Proofs.Ytjoklbkbggdlgaa
