import Derived.Test.YtheohcebiimdoaaKern
/- What the functions of package kern come to: Axpy, Sum, Comb; the document's Comb. -/
namespace Go.Proofs.Ytheohcebiimdoaa
open Go.RowKit
set_option linter.unusedVariables false
set_option maxRecDepth 100000
attribute [local go_sem] bits_xor_b
/-! ### Rows of one length -/
def lenB (m : Nat) (rows : List (List UInt8)) : Bool := rows.all (fun r => r.length == m)
def prefixLen (m : Nat) (rows : List (List UInt8)) (k : Nat) : Prop := lenB m (rows.take k) = true
theorem prefixLen_succ {m : Nat} {rows : List (List UInt8)} {k : Nat} (h : prefixLen m rows k) (hu : k < rows.length) (e : (rows[k]?.getD []).length = m) : prefixLen m rows (k + 1) := by
  unfold prefixLen lenB at *
  rw [List.take_succ_eq_append_getElem hu, List.all_append, h]
  simp [hu] at e
  simp [e]
theorem len_false {m : Nat} {rows : List (List UInt8)} {k : Nat} (hu : k < rows.length) (e : (rows[k]?.getD []).length ≠ m) : lenB m rows = false := by
  unfold lenB
  rw [List.all_eq_false]
  simp [hu] at e
  exact ⟨rows[k], List.getElem_mem _, by simpa using e⟩
theorem prefixLen_all {m : Nat} {rows : List (List UInt8)} {n : Nat} (h : prefixLen m rows n) (hn : rows.length = n) : lenB m rows = true := by
  unfold prefixLen at h
  rwa [List.take_of_length_le (by omega)] at h
/-! ### Combinations -/
/-- The sum of each row times its byte. -/
def combTo (cs : List UInt8) (rows : List (List UInt8)) (ss : List UInt8) : Nat → List UInt8
  | 0 => ss
  | k + 1 => addL (cs[k]?.getD 0) (rows[k]?.getD []) (combTo cs rows ss k)
theorem lenB_get {m : Nat} {rows : List (List UInt8)} (h : lenB m rows = true) {k : Nat} (hk : k < rows.length) : (rows[k]?.getD []).length = m := by
  unfold lenB at h
  have := List.all_eq_true.1 h rows[k] (List.getElem_mem _)
  simpa [hk] using this
end Go.Proofs.Ytheohcebiimdoaa
