import Derived.Test.YtehppjdiegoeeaaA5
import Derived.Test.YtehppjdiegoeeaaE1
import Derived.ProofKit
import Derived.OpenShut
import Derived.ShutString
import Derived.ChangeOld
import Derived.Deep.SlicePairs
import Derived.Deep.Fields
import Derived.Lib.SmallJoins
namespace Go.Proofs.Ytehppjdiegoeeaa
open Go.ChangeShapes Go.WideShapes Go.ChangeAt Go.RowKit Go.Deep
set_option maxRecDepth 100000
set_option linter.unusedVariables false
set_option linter.unusedSimpArgs false



section
variable {H : Type} {enc : TypeId × Value → H} {W : World} {base b0 : Nat} {r : Reach} {spare : Nat → Bool} {held : Bool}



theorem Rl.below {w w' : World} {A : Option Addr} {rs : List (Int × Int)} (h : Rl w A rs) (hb : Below w.heap.size w w') : Rl w' A rs := by
  intro hp
  obtain ⟨b, off, e, hlt, hr⟩ := h hp
  refine ⟨b, off, e, Nat.lt_of_lt_of_le hlt hb.size, fun k hk => ?_⟩
  exact ⟨(hb.cell (p := ⟨b, off + k * 2, none⟩) hlt).trans (hr k hk).1, (hb.cell (p := ⟨b, off + k * 2 + 1, none⟩) hlt).trans (hr k hk).2⟩

end


end Go.Proofs.Ytehppjdiegoeeaa
