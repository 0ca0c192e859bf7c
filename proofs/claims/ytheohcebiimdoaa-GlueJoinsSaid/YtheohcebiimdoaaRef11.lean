import Derived.Test.YtheohcebiimdoaaCut
import Derived.Test.YtheohcebiimdoaaRef10
/- The document's symbols, byte by byte. -/
namespace Go.Proofs.Ytheohcebiimdoaa
open Go.RowKit
set_option linter.unusedVariables false
set_option maxRecDepth 100000

/-- What stands in the middle of the document's loop. -/
def Mid (S K : Nat) (us : List UInt8) (base : Nat) (wr : World) (out one : Value) (j : Nat) : Prop :=
  ∃ (w0 : World) (q r : Nat), j = q * S + r ∧ r < S ∧ Was w0 base out ((symsL S K us).take q) ∧ base < w0.heap.size ∧ Below w0.heap.size w0 wr ∧ wr.ownsRow w0.heap.size 5 1 one r (bvs ((symL S us q).take r))
theorem Mid.more {S K : Nat} {us : List UInt8} {base : Nat} {w0 wr : World} {out one : Value} {q r j : Nat} (hj : j = q * S + r) (h0 : Was w0 base out ((symsL S K us).take q)) (hb : base < w0.heap.size) (hb0 : Below w0.heap.size w0 wr) (ho : wr.ownsRow w0.heap.size 5 1 one (r + 1) (bvs ((symL S us q).take (r + 1)))) (hr : r + 1 < S) : Mid S K us base wr out one (j + 1) :=
  ⟨w0, q, r + 1, by omega, hr, h0, hb, hb0, ho⟩
end Go.Proofs.Ytheohcebiimdoaa
