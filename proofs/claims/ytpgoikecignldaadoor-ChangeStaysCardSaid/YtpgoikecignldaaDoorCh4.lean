/-
  THE REFERENCE's column and Key (chapter 18).
-/
import Derived.Test.YtpgoikecignldaaDoorRr
import Derived.Test.YtpgoikecignldaaDoorCh3
set_option linter.unusedVariables false
namespace Go.Proofs.YtpgoikecignldaaDoor
open Go Go.RowKit

/-- The keys of the chapter. -/
def opKeys : List Int := [100, 99, 121, 62, 60, 16777333, 16777301, 16777342]
end Go.Proofs.YtpgoikecignldaaDoor
