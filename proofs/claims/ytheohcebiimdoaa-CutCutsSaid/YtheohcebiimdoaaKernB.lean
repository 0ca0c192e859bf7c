import Derived.Test.YtheohcebiimdoaaKern
/- What the functions of package kern come to: Axpy, Sum, Comb; the document's Comb. -/
namespace Go.Proofs.Ytheohcebiimdoaa
open Go.RowKit
set_option linter.unusedVariables false
set_option maxRecDepth 100000
attribute [local go_sem] bits_xor_b
/-! ### Rows of one length -/
def lenB (m : Nat) (rows : List (List UInt8)) : Bool := rows.all (fun r => r.length == m)
/-! ### Combinations -/
/-- The sum of each row times its byte. -/
def combTo (cs : List UInt8) (rows : List (List UInt8)) (ss : List UInt8) : Nat → List UInt8
  | 0 => ss
  | k + 1 => addL (cs[k]?.getD 0) (rows[k]?.getD []) (combTo cs rows ss k)
end Go.Proofs.Ytheohcebiimdoaa
