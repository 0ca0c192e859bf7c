import Derived.Test.YtilelmejpbnbnaaGridH
import Derived.Test.YtilelmejpbnbnaaWas
import Derived.StillTailTactics
/- The document's own grids: turned, and multiplied. -/
namespace Go.Proofs.Ytilelmejpbnbnaa
open Go.RowKit
set_option linter.unusedVariables false
set_option maxRecDepth 100000

/-! ### Products -/
def mulL (a b : List (List UInt8)) (p : Nat) : List (List UInt8) := a.map fun row => combTo row b (nulls p) b.length
theorem mulL_len (a b : List (List UInt8)) (p : Nat) : (mulL a b p).length = a.length := by simp [mulL]
end Go.Proofs.Ytilelmejpbnbnaa
