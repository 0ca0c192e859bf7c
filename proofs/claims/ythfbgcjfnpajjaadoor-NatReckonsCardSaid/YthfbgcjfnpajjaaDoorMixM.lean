import Derived.Test.YthfbgcjfnpajjaaDoorWords2
/- Numbers of 64 bits: what a state of a generator gives, as plain numbers. Of no program. -/
namespace Go.Proofs.YthfbgcjfnpajjaaDoor
open Go.RowKit
set_option linter.unusedVariables false
set_option maxRecDepth 100000

/-- A number of 64 bits. (Behind a name, so that the walk leaves it as it stands.) -/
def uv (n : Nat) : Int := (n : Int)
theorem uv_nn (n : Nat) : 0 ≤ uv n := by unfold uv; omega
/-- What is combined with itself, so many bits to the right. -/
def xs (k z : Nat) : Nat := z ^^^ (z / 2 ^ k)
def m1 (z : Nat) : Nat := z * 13787848793156543929 % 18446744073709551616
def m2 (z : Nat) : Nat := z * 10723151780598845931 % 18446744073709551616
/-! ### No two states have one number -/
/-! ### As the walk spells it -/
end Go.Proofs.YthfbgcjfnpajjaaDoor
