import Derived.Test.YtehppjdiegoeeaaK2
import Derived.Test.YtehppjdiegoeeaaE1
import Derived.Deep.Matrix
namespace Go.Proofs.Ytehppjdiegoeeaa
open Go.ChangeShapes Go.WideShapes Go.ChangeAt Go.RowKit Go.Deep
set_option maxRecDepth 100000
set_option linter.unusedVariables false
set_option linter.unusedSimpArgs false



section
variable {H : Type} {enc : TypeId × Value → H} {W : World} {base b0 : Nat} {r : Reach} {held : Bool}
end

end Go.Proofs.Ytehppjdiegoeeaa
