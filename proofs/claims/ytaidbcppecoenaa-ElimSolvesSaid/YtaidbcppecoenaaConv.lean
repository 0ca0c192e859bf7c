import Derived.Test.YtaidbcppecoenaaGridC
/- A row that a string was turned into, and one byte more behind it. -/
namespace Go.Proofs.Ytaidbcppecoenaa
open Go.RowKit
set_option linter.unusedVariables false
set_option maxRecDepth 100000

/-- Block g holds what a string was turned into: these bytes, and room up to cap. -/
def Conv (w : World) (g cap : Nat) (us : List UInt8) : Prop := ∃ cur : Array Value, w.heap[g]? = some (.cells cur 5 (cap, cap + 1)) ∧ cur.size = cap ∧ us.length ≤ cap ∧ cur.toList.take us.length = bvs us
theorem Conv.lt {w : World} {g cap : Nat} {us : List UInt8} (h : Conv w g cap us) : g < w.heap.size := by
  obtain ⟨cur, h1, _⟩ := h
  exact (Array.getElem?_eq_some_iff.1 h1).1
theorem Conv.cell {w : World} {g cap i : Nat} {us : List UInt8} {u : UInt8} (h : Conv w g cap us) (hu : us[i]? = some u) : w.cell? ⟨g, i, none⟩ = some (.int .u8 (bv u)) := by
  obtain ⟨cur, h1, h2, h3, h4⟩ := h
  have hi := (List.getElem?_eq_some_iff.1 hu).1
  rw [cell_of_row _ g i _ _ _ h1]
  have := bvs_get us i u hu
  rw [← h4, List.getElem?_take, if_pos hi] at this
  simpa using this
theorem Conv.below {w w' : World} {g cap : Nat} {us : List UInt8} (h : Conv w g cap us) (hb : Below w.heap.size w w') : Conv w' g cap us := by
  have hl := h.lt
  obtain ⟨cur, h1, h2⟩ := h
  exact ⟨cur, (hb.block g hl).trans h1, h2⟩
end Go.Proofs.Ytaidbcppecoenaa

