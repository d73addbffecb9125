import Derived.Test.YtjoklbkbggdlgaaA5
import Derived.Test.YtjoklbkbggdlgaaE1
import Derived.ProofKit
import Derived.OpenShut
import Derived.ShutString
import Derived.ChangeOld
import Derived.Deep.SlicePairs
import Derived.Deep.Fields
import Derived.Lib.SmallJoins
namespace Go.Proofs.Ytjoklbkbggdlgaa
open Go.ChangeShapes Go.WideShapes Go.ChangeAt Go.RowKit Go.Deep
set_option maxRecDepth 100000
set_option linter.unusedVariables false
set_option linter.unusedSimpArgs false



section
variable {H : Type} {enc : TypeId × Value → H} {W : World} {base b0 : Nat} {r : Reach} {spare : Nat → Bool} {held : Bool}



theorem Rl.below {w w' : World} {A : Option Addr} {rs : List (Int × Int)} (h : Rl w A rs) (hb : Below w.heap.size w w') : Rl w' A rs := by
  intro hp
  obtain ⟨b, off, e, hlt, hr⟩ := h hp
  refine ⟨b, off, e, Nat.lt_of_lt_of_le hlt hb.size, fun k hk => ?_⟩
  exact ⟨(hb.cell (p := ⟨b, off + k * 2, none⟩) hlt).trans (hr k hk).1, (hb.cell (p := ⟨b, off + k * 2 + 1, none⟩) hlt).trans (hr k hk).2⟩

theorem Rl_of_own {w : World} {B : Nat} {A : Option Addr} {n c : Nat} {rs : List (Int × Int)} (h : OwnR w B (.slice A n c) rs) (hn : n = rs.length) : Rl w A rs := by
  subst hn
  intro hp
  rcases h.2 with ⟨_, h0⟩ | ⟨g, cap, cur, hv, _, hg, _⟩
  · omega
  · simp only [Value.slice.injEq] at hv
    obtain ⟨rfl, _, rfl⟩ := hv
    refine ⟨g, 0, rfl, (Array.getElem?_eq_some_iff.1 hg).1, fun k hk => ?_⟩
    have h1 := World.ownsRow.cellAt h (k * 2) (by omega)
    have h2 := World.ownsRow.cellAt h (k * 2 + 1) (by omega)
    have hc := cellsR_get rs k hk
    simp only [Nat.zero_add]
    exact ⟨h1.trans hc.1, h2.trans hc.2⟩
end


end Go.Proofs.Ytjoklbkbggdlgaa
