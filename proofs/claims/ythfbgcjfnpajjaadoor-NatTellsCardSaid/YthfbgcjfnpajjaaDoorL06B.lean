import Derived.Test.YthfbgcjfnpajjaaDoorL06A
/- NatLong: its walk. -/
namespace Go.Proofs.YthfbgcjfnpajjaaDoor
open Go.RowKit
set_option linter.unusedVariables false
set_option maxRecDepth 100000

/-! ### The bound itself -/
/-- A number that lies in a box of its own. -/
def Box (w : World) (g N : Nat) : Prop := ∃ A n c, Blk w g 27 #[.slice A n c] ∧ NatIs w w.heap.size (.agg #[.slice A n c]) N
theorem Box.step {w w' : World} {g N : Nat} (h : Box w g N) (hb : Below w.heap.size w w') : Box w' g N := by
  obtain ⟨A, n, c, h1, h2⟩ := h
  exact ⟨A, n, c, blk_size h1 hb, h2.step hb⟩
theorem Box.new {w : World} {A : Option Addr} {n c N : Nat} (h : NatIs w w.heap.size (.agg #[.slice A n c]) N) : Box (w.alloc (.cells #[.slice A n c] 27)) w.heap.size N :=
  ⟨A, n, c, Blk.new w _ _, h.step (balloc w _)⟩
theorem Box.lt {w : World} {g N : Nat} (h : Box w g N) : g < w.heap.size := by
  obtain ⟨A, n, c, h1, h2⟩ := h
  exact h1.lt
end Go.Proofs.YthfbgcjfnpajjaaDoor
