import Derived.Test.YtaapfapejekkfaaJ3
import Derived.Test.YtaapfapejekkfaaPC
import Derived.Test.YtaapfapejekkfaaY8
import Derived.Test.YtaapfapejekkfaaP0
namespace Go.Proofs.Ytaapfapejekkfaa
open Go.RowKit
set_option linter.unusedVariables false
set_option linter.unusedSimpArgs false

end Go.Proofs.Ytaapfapejekkfaa
