import Derived.Test.YtheohcebiimdoaaWords
/- What the functions of package field, and the document's own answer for them, come to. -/
namespace Go.Proofs.Ytheohcebiimdoaa
open Go.RowKit
set_option linter.unusedVariables false
set_option maxRecDepth 100000
attribute [local go_sem] bits_xor_b bits_and1_b
/-! ### remainder, power, Inv, Div, Pow, Exp, Log -/
theorem bv_ne' {a : UInt8} (h : a ≠ 0) : (bv a != 0) = true := by
  rw [show (0 : Int) = bv 0 from rfl, bv_bne]; simpa using h
/-! ### The document's answer for layer 1 -/
/-! ### Calls of Add and Mul with a slice that was just built -/
end Go.Proofs.Ytheohcebiimdoaa
