import Derived.Test.YtehppjdiegoeeaaGJ
namespace Go.Proofs.Ytehppjdiegoeeaa
open Go.RowKit
set_option linter.unusedVariables false
set_option linter.unusedSimpArgs false


end Go.Proofs.Ytehppjdiegoeeaa
