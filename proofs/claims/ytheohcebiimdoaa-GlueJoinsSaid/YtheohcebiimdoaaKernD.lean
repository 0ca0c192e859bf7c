import Derived.Test.YtheohcebiimdoaaKernC
/- The calls of package kern and the document's own, each by one contract for all inputs. -/
namespace Go.Proofs.Ytheohcebiimdoaa
open Go.RowKit
set_option linter.unusedVariables false
set_option maxRecDepth 100000

/-- A row and a code are answered. -/
def RowSays (r : List UInt8 × Int) (w : World) (e : Ending) (w' : World) : Prop :=
  ∃ A n c, e = .returned (.tuple #[.slice A n c, .int .i64 r.2]) ∧ Rd w' w'.heap.size A n r.1 ∧ n ≤ 140737488355328 ∧ Below w.heap.size w w'
theorem RowSays.blk {w w' : World} {g n : Nat} {us : List UInt8} {k : Int} (hl : us.length = n) (hg : Blk w' g 5 (bvs us).toArray) (hn : n ≤ 140737488355328) (hb : Below w.heap.size w w') : RowSays (us, k) w (.returned (.tuple #[.slice (some ⟨g, 0, none⟩) n n, .int .i64 k])) w' := by
  subst hl
  exact ⟨some ⟨g, 0, none⟩, _, _, rfl, (Rd.of_blk hg).more hg.lt, hn, hb⟩
def first (rows : List (List UInt8)) : Nat := (rows[0]?.getD []).length
def Short (rows : List (List UInt8)) : Prop := ∀ r ∈ rows, r.length ≤ 140737488355327
theorem Short.first {rows : List (List UInt8)} (h : Short rows) : first rows ≤ 140737488355327 := by
  unfold Go.Proofs.Ytheohcebiimdoaa.first
  cases rows with
  | nil => simp
  | cons r rs => simpa using h r (List.mem_cons_self ..)
end Go.Proofs.Ytheohcebiimdoaa
