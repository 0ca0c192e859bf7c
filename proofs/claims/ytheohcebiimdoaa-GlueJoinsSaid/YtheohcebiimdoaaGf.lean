
/- The field of 256 bytes, plainly: products by shifts, their laws, powers, inverses. Nothing of the program. -/
namespace Go.Proofs.Ytheohcebiimdoaa
def xt (a : UInt8) : UInt8 := if a >>> 7 = 1 then (a <<< 1) ^^^ 29 else a <<< 1
def xts : Nat → UInt8 → UInt8
  | 0, a => a
  | k + 1, a => xt (xts k a)
def bit (b : UInt8) (k : Nat) : Bool := b.toNat.testBit k
def gmTo (a b : UInt8) : Nat → UInt8
  | 0 => 0
  | k + 1 => if bit b k then gmTo a b k ^^^ xts k a else gmTo a b k
def gm (a b : UInt8) : UInt8 := gmTo a b 8
def Lin (f : UInt8 → UInt8) : Prop := ∀ x y, f (x ^^^ y) = f x ^^^ f y
theorem Lin.zero {f : UInt8 → UInt8} (h : Lin f) : f 0 = 0 := by
  have := h 0 0
  simpa using this

/-! The product by the definition: the polynomials multiplied as they are, then divided. -/
end Go.Proofs.Ytheohcebiimdoaa
