import Derived.Test.YtilelmejpbnbnaaGridF
import Derived.Test.YtilelmejpbnbnaaWas
import Derived.StillTailTactics
import Derived.Test.YtilelmejpbnbnaaConv
/- grid.Mul. -/
namespace Go.Proofs.Ytilelmejpbnbnaa
open Go.RowKit
set_option linter.unusedVariables false
set_option maxRecDepth 100000

theorem addL_none (us ss : List UInt8) : addL 0 us ss = ss := by
  unfold addL addTo
  apply List.ext_getElem?
  intro i
  rw [List.getElem?_mapIdx]
  cases h : ss[i]? with
  | none => rfl
  | some s => simp [gm_zero_left]
end Go.Proofs.Ytilelmejpbnbnaa
