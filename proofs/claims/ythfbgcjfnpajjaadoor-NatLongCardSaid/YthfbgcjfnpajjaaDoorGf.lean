
/- The field of 256 bytes, plainly: products by shifts, their laws, powers, inverses. Nothing of the program. -/
namespace Go.Proofs.YthfbgcjfnpajjaaDoor
def Lin (f : UInt8 → UInt8) : Prop := ∀ x y, f (x ^^^ y) = f x ^^^ f y
theorem Lin.zero {f : UInt8 → UInt8} (h : Lin f) : f 0 = 0 := by
  have := h 0 0
  simpa using this

/-! The product by the definition: the polynomials multiplied as they are, then divided. -/
end Go.Proofs.YthfbgcjfnpajjaaDoor
