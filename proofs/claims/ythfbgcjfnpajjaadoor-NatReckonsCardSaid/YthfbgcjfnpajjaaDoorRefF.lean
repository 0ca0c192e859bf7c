import Derived.Test.YthfbgcjfnpajjaaDoorRefE
/- The document's own numbers: Parse. -/
namespace Go.Proofs.YthfbgcjfnpajjaaDoor
open Go.RowKit
set_option linter.unusedVariables false
set_option maxRecDepth 100000

/-- So far the bytes of a text's number. -/
def ParTo (l : List UInt8) (j : Nat) (us : List UInt8) : Prop := leN us = hexV (l.drop j) ∧ us.length = (l.length - j + 1) / 2 ∧ ∀ c ∈ l.drop j, isHex c = true
theorem ParTo.start (l : List UInt8) : ParTo l l.length [] := ⟨by rw [List.drop_length]; rfl, by simp, by simp⟩
end Go.Proofs.YthfbgcjfnpajjaaDoor
