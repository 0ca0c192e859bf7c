import Derived.Test.YtheohcebiimdoaaKernB
/- What kern.Sum and the document's Comb come to. -/
namespace Go.Proofs.Ytheohcebiimdoaa
open Go.RowKit
set_option linter.unusedVariables false
set_option maxRecDepth 100000
attribute [local go_sem] bits_xor_b
/-! ### kern.Sum -/
def ones (n : Nat) : List UInt8 := List.replicate n 1
/-! ### The document's Comb -/
def CombSays (cs : List UInt8) (rows : List (List UInt8)) (n m : Nat) (w : World) (e : Ending) (w' : World) : Prop :=
  (if lenB m rows = true then ∃ A' c', e = .returned (.tuple #[.slice A' m c', .int .i64 0]) ∧ Rd w' w'.heap.size A' m (combTo cs rows (nulls m) n) else e = .returned (.tuple #[.slice none 0 0, .int .i64 4])) ∧ Below w.heap.size w w'
theorem CombSays.no {cs : List UInt8} {rows : List (List UInt8)} {n m : Nat} {w w' : World} (h : lenB m rows = false) (hb : Below w.heap.size w w') : CombSays cs rows n m w (.returned (.tuple #[.slice none 0 0, .int .i64 4])) w' :=
  ⟨by rw [h]; rfl, hb⟩
end Go.Proofs.Ytheohcebiimdoaa
