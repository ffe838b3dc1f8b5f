/-
  THE REFERENCE's Rest (for seats where Tr does not fill).
-/
import Derived.Test.YtpgoikecignldaaDoorRe
import Derived.Test.YtpgoikecignldaaDoorSp
set_option linter.unusedVariables false
namespace Go.Proofs.YtpgoikecignldaaDoor
open Go Go.RowKit

end Go.Proofs.YtpgoikecignldaaDoor
