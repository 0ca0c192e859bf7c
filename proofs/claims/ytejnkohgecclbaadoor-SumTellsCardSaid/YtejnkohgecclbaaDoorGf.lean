
/- The field of 256 bytes, plainly: products by shifts, their laws, powers, inverses. Nothing of the program. -/
namespace Go.Proofs.YtejnkohgecclbaaDoor
/-- Checked at all 256 bytes. -/
theorem all_u8 {P : UInt8 → Bool} (h : (List.range 256).all (fun n => P (UInt8.ofNat n)) = true) (a : UInt8) : P a = true := by
  have := List.all_eq_true.1 h a.toNat (by simpa using a.toNat_lt)
  simpa using this

def Lin (f : UInt8 → UInt8) : Prop := ∀ x y, f (x ^^^ y) = f x ^^^ f y
theorem Lin.zero {f : UInt8 → UInt8} (h : Lin f) : f 0 = 0 := by
  have := h 0 0
  simpa using this

/-! The product by the definition: the polynomials multiplied as they are, then divided. -/
end Go.Proofs.YtejnkohgecclbaaDoor
