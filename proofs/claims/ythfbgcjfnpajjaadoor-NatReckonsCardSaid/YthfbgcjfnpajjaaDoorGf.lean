
/- The field of 256 bytes, plainly: products by shifts, their laws, powers, inverses. Nothing of the program. -/
namespace Go.Proofs.YthfbgcjfnpajjaaDoor
def bit (b : UInt8) (k : Nat) : Bool := b.toNat.testBit k
/-- Checked at all 256 bytes. -/
theorem all_u8 {P : UInt8 → Bool} (h : (List.range 256).all (fun n => P (UInt8.ofNat n)) = true) (a : UInt8) : P a = true := by
  have := List.all_eq_true.1 h a.toNat (by simpa using a.toNat_lt)
  simpa using this

def Lin (f : UInt8 → UInt8) : Prop := ∀ x y, f (x ^^^ y) = f x ^^^ f y
theorem Lin.zero {f : UInt8 → UInt8} (h : Lin f) : f 0 = 0 := by
  have := h 0 0
  simpa using this

def pick (c : Bool) (x : UInt8) : UInt8 := if c then x else 0
def bits8 (b : UInt8) : UInt8 := pick (bit b 0) 1 ^^^ pick (bit b 1) 2 ^^^ pick (bit b 2) 4 ^^^ pick (bit b 3) 8 ^^^ pick (bit b 4) 16 ^^^ pick (bit b 5) 32 ^^^ pick (bit b 6) 64 ^^^ pick (bit b 7) 128
theorem bits8_eq (b : UInt8) : bits8 b = b :=
  of_decide_eq_true (all_u8 (P := fun b => decide (bits8 b = b)) (by decide +kernel) b)
theorem Lin.pick {f : UInt8 → UInt8} (h : Lin f) (c : Bool) (x : UInt8) : f (pick c x) = Go.Proofs.YthfbgcjfnpajjaaDoor.pick c (f x) := by
  cases c
  · exact h.zero
  · rfl
def basis : List UInt8 := [1, 2, 4, 8, 16, 32, 64, 128]
theorem Lin.ext {f g : UInt8 → UInt8} (hf : Lin f) (hg : Lin g) (h : ∀ x ∈ basis, f x = g x) (b : UInt8) : f b = g b := by
  have e : ∀ k : UInt8 → UInt8, Lin k → k b = Go.Proofs.YthfbgcjfnpajjaaDoor.pick (bit b 0) (k 1) ^^^ Go.Proofs.YthfbgcjfnpajjaaDoor.pick (bit b 1) (k 2) ^^^ Go.Proofs.YthfbgcjfnpajjaaDoor.pick (bit b 2) (k 4) ^^^ Go.Proofs.YthfbgcjfnpajjaaDoor.pick (bit b 3) (k 8) ^^^ Go.Proofs.YthfbgcjfnpajjaaDoor.pick (bit b 4) (k 16) ^^^ Go.Proofs.YthfbgcjfnpajjaaDoor.pick (bit b 5) (k 32) ^^^ Go.Proofs.YthfbgcjfnpajjaaDoor.pick (bit b 6) (k 64) ^^^ Go.Proofs.YthfbgcjfnpajjaaDoor.pick (bit b 7) (k 128) := by
    intro k hk
    conv => lhs; rw [← bits8_eq b]
    unfold bits8
    simp only [hk _ _, hk.pick]
  rw [e f hf, e g hg, h 1 (by simp [basis]), h 2 (by simp [basis]), h 4 (by simp [basis]), h 8 (by simp [basis]), h 16 (by simp [basis]), h 32 (by simp [basis]), h 64 (by simp [basis]), h 128 (by simp [basis])]

/-! The product by the definition: the polynomials multiplied as they are, then divided. -/
end Go.Proofs.YthfbgcjfnpajjaaDoor
