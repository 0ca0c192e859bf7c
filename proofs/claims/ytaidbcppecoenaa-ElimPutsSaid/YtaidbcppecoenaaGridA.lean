import Derived.Test.YtaidbcppecoenaaVecB
import Derived.Test.YtaidbcppecoenaaFill
import Derived.Test.YtaidbcppecoenaaJoin
import Derived.Lib.Small
/- What package grid's small functions come to, and the library's searches that they call. -/
namespace Go.Proofs.Ytaidbcppecoenaa
open Go.RowKit
set_option linter.unusedVariables false
set_option maxRecDepth 100000

/-! ### fits -/
/-! ### A row of another length -/
/-! ### Grids as values -/
theorem cells3 {w : World} {g : Nat} {T : TypeId} {x y z : Value} (h : Blk w g T #[x, y, z]) : w.cell? ⟨g, 0, none⟩ = some x ∧ w.cell? ⟨g, 1, none⟩ = some y ∧ w.cell? ⟨g, 2, none⟩ = some z ∧ w.frozen? ⟨g, 0, none⟩ = false ∧ w.frozen? ⟨g, 1, none⟩ = false ∧ w.frozen? ⟨g, 2, none⟩ = false := by
  refine ⟨?_, ?_, ?_, h.frozen 0, h.frozen 1, h.frozen 2⟩
  · rw [h.cell]; rfl
  · rw [h.cell]; rfl
  · rw [h.cell]; rfl
theorem Blk.three {w : World} {g : Nat} {T : TypeId} {x y z x0 y0 z0 : Value} (hg : Blk w g T #[x0, y0, z0]) : Blk (((w.setCell ⟨g, 0, none⟩ x).setCell ⟨g, 1, none⟩ y).setCell ⟨g, 2, none⟩ z) g T #[x, y, z] := by
  have := ((hg.set 0 x).set 1 y).set 2 z
  simpa using this
end Go.Proofs.Ytaidbcppecoenaa

