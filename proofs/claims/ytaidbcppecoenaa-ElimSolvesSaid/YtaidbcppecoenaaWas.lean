import Derived.Test.YtaidbcppecoenaaWords2
/- One row more, of the call's own. -/
namespace Go.Proofs.Ytaidbcppecoenaa
open Go.RowKit
set_option linter.unusedVariables false
set_option maxRecDepth 100000

theorem own_mono {w : World} {base base' : Nat} {e : TypeId} {size n : Nat} {v : Value} {xs : List Value} (h : w.ownsRow base e size v n xs) (hb : base' ≤ base) : w.ownsRow base' e size v n xs := by
  obtain ⟨h3, h4⟩ := h
  refine ⟨h3, ?_⟩
  rcases h4 with h4 | ⟨g, cap, cur, h5, h6, h7⟩
  · exact .inl h4
  · exact .inr ⟨g, cap, cur, h5, by omega, h7⟩
/-- A block of bytes stays where one byte row of the call's own grows, but that. -/
theorem Was.mono {w : World} {base base' : Nat} {v : Value} {rows : List (List UInt8)} (h : Was w base v rows) (hb : base' ≤ base) : Was w base' v rows := by
  obtain ⟨xs, h1, h2⟩ := h
  have key : ∀ {e : TypeId} {size n : Nat} {v : Value} {xs : List Value}, w.ownsRow base e size v n xs → w.ownsRow base' e size v n xs := by
    rintro e size n v xs ⟨h3, h4⟩
    refine ⟨h3, ?_⟩
    rcases h4 with h4 | ⟨g, cap, cur, h5, h6, h7⟩
    · exact .inl h4
    · exact .inr ⟨g, cap, cur, h5, by omega, h7⟩
  exact ⟨xs, key h1, fun i us hu => by obtain ⟨vi, h3, h4⟩ := h2 i us hu; exact ⟨vi, h3, key h4⟩⟩
theorem Was.step {w w' : World} {base : Nat} {v : Value} {rows : List (List UInt8)} (h : Was w base v rows) (hb : Below w.heap.size w w') : Was w' base v rows := h.below hb
end Go.Proofs.Ytaidbcppecoenaa

