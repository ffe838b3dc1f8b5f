/-
  THE REFERENCE's made and tidy (chapter 18).
-/
import Derived.Test.YtpgoikecignldaaDoorOc
set_option linter.unusedVariables false
namespace Go.Proofs.YtpgoikecignldaaDoor
open Go Go.RowKit

end Go.Proofs.YtpgoikecignldaaDoor
