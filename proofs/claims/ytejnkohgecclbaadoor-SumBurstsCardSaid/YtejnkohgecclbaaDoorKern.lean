import Derived.Test.YtejnkohgecclbaaDoorWords
/- What the functions of package kern, and the document's own answer for them, come to. -/
namespace Go.Proofs.YtejnkohgecclbaaDoor
open Go.RowKit
set_option linter.unusedVariables false
set_option maxRecDepth 100000
attribute [local go_sem] bits_xor_b
/-! ### Same, Zero, Few -/
/-! ### kern.Zero, by way of slices.ContainsFunc -/
/-! ### Few -/
/-! ### The document's Scale and Dot -/
/-! ### kern.Dot -/
/-! ### The tables of one byte's products, half by half -/
/-- (Behind a name, so that the walk leaves it as it stands.) -/
def ob (n : Nat) : UInt8 := UInt8.ofNat n
/-! ### add -/
theorem halves (u : UInt8) : ob (u.toNat % 16) ^^^ ob (16 * (u.toNat / 16)) = u :=
  of_decide_eq_true (all_u8 (P := fun u => decide (ob (u.toNat % 16) ^^^ ob (16 * (u.toNat / 16)) = u)) (by decide +kernel) u)
/-! ### Scale and Axpy -/
end Go.Proofs.YtejnkohgecclbaaDoor
