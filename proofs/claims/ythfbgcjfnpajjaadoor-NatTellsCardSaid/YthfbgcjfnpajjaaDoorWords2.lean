import Derived.Test.YthfbgcjfnpajjaaDoorWords
/- More words of memory: rows of rows that the call itself made. -/
namespace Go.Proofs.YthfbgcjfnpajjaaDoor
open Go.RowKit
set_option linter.unusedVariables false

/-! ### A row of rows of the call's own -/
def Was (w : World) (base : Nat) (v : Value) (rows : List (List UInt8)) : Prop :=
  ∃ xs, w.ownsRow base 23 1 v rows.length xs ∧ ∀ (i : Nat) (us : List UInt8), rows[i]? = some us → ∃ vi, xs[i]? = some vi ∧ w.ownsRow base 5 1 vi us.length (bvs us)
theorem Was.nil (w : World) (base : Nat) : Was w base (.slice none 0 0) [] := ⟨[], World.ownsRow_nil _ _ _ _, fun i us h => by simp at h⟩
theorem Was.below {w w' : World} {base : Nat} {v : Value} {rows : List (List UInt8)} (h : Was w base v rows) (hb : Below w.heap.size w w') : Was w' base v rows := by
  obtain ⟨xs, h1, h2⟩ := h
  have hg := grown_of_below hb none
  refine ⟨xs, h1.kept hg ?_, fun i us hu => ?_⟩
  · cases hv : v.ownBlock with
    | none => exact .inl rfl
    | some g => exact .inr (by simp)
  · obtain ⟨vi, h3, h4⟩ := h2 i us hu
    refine ⟨vi, h3, h4.kept hg ?_⟩
    cases hv : vi.ownBlock with
    | none => exact .inl rfl
    | some g => exact .inr (by simp)
end Go.Proofs.YthfbgcjfnpajjaaDoor
