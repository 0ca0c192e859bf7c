import Derived.Test.YtheohcebiimdoaaKernD
import Derived.Test.YtheohcebiimdoaaWords2
import Derived.Laws.BytesArg
/- What the functions of package vec, and the document's own answer for them, come to. -/
namespace Go.Proofs.Ytheohcebiimdoaa
open Go.RowKit
set_option linter.unusedVariables false
set_option maxRecDepth 100000

/-! ### Where a vector leads -/
theorem vzero_any {B : Nat} {A : Option Addr} {n c : Nat} {us : List UInt8} {w : World} (h : Rd w B A n us) (hn : n ≤ 9223372036854775807) :
    Calls Try.prog 31 #[.slice A n c] w fun e w' => e = .returned (.bool (zeroB us)) ∧ w = w' := by
  go_enter Try.func31, Try.ntmps31
  go_wp2_with fail
  refine (kzero_any h hn).mono ?_
  rintro e w' ⟨rfl, rfl⟩
  go_wp2_with fail
  go_ret
  exact ⟨rfl, rfl⟩

/-! ### At, Unit -/
/-! ### Copies -/
/-! ### bytes.Equal -/
end Go.Proofs.Ytheohcebiimdoaa
