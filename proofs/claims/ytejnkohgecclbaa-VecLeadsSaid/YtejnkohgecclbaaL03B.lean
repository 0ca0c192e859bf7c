import Derived.Test.YtejnkohgecclbaaVecD
import Derived.Test.YtejnkohgecclbaaL03A
import Derived.Lib.SmallJoins
import Derived.Deep.DeepCutAuto
import Derived.Deep.CutRange
/- Proved: for every input VecRows returns true and leaves what it is handed as it was. No condition. -/
namespace Go.Proofs.Ytejnkohgecclbaa
open Go.Joins Go.ChangeShapes Go.WideShapes Go.ChangeAt Go.RowKit
open Go.ChangeMaps (open_string shut_string)
set_option linter.unusedVariables false
set_option maxRecDepth 100000

theorem cells22 {W w : World} {g g2 : Nat} {T T2 : TypeId} {a b c d : Value} (h : Blk W g T #[a, b]) (h2 : Blk W g2 T2 #[c, d]) (hB : Below W.heap.size W w) :
    w.cell? ⟨g, 0, none⟩ = some a ∧ w.cell? ⟨g, 1, none⟩ = some b ∧ w.cell? ⟨g2, 0, none⟩ = some c ∧ w.cell? ⟨g2, 1, none⟩ = some d := by
  obtain ⟨k0, k1, _, _⟩ := cells2 (h.below hB h.lt)
  obtain ⟨k2, k3, _, _⟩ := cells2 (h2.below hB h2.lt)
  exact ⟨k0, k1, k2, k3⟩
/-! ### The frame of 'VecRows' -/
end Go.Proofs.Ytejnkohgecclbaa
