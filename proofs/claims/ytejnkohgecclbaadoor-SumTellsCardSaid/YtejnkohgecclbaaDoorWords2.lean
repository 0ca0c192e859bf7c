import Derived.Test.YtejnkohgecclbaaDoorWords
/- More words of memory: rows of rows that the call itself made. -/
namespace Go.Proofs.YtejnkohgecclbaaDoor
open Go.RowKit
set_option linter.unusedVariables false

/-- 'append(own, x...)' where x is nil: nothing happens. -/
theorem run_append_nil {P : Program} (w : World) (base : Nat) (t ty e : TypeId) (i : TypeInfo) (size : Nat) (ht : P.underlying t = some (.slice e)) (hi : P.info? e = some i)
    (v : Value) (n : Nat) (xs : List Value) (hown : w.ownsRow base e size v n xs) (c : Nat) : (Builtin.append_ #[t, t] ty #[v, .slice none 0 c]).run P w = .ok v w := by
  rcases hown.2 with ⟨rfl, rfl⟩ | ⟨g, cap, cur, rfl, _, _, hnc, _⟩
  · simp [Builtin.append_, run_underlying ht, sizeOf, typeInfo, hi, Builtin.lenOf, Builtin.firstCells]
  · simp [Builtin.append_, run_underlying ht, sizeOf, typeInfo, hi, Builtin.lenOf, Builtin.firstCells, hnc, storeCells]
/-! ### A row of rows of the call's own -/
def Was (w : World) (base : Nat) (v : Value) (rows : List (List UInt8)) : Prop :=
  ∃ xs, w.ownsRow base 24 1 v rows.length xs ∧ ∀ (i : Nat) (us : List UInt8), rows[i]? = some us → ∃ vi, xs[i]? = some vi ∧ w.ownsRow base 5 1 vi us.length (bvs us)
theorem own_types {w : World} {base base' : Nat} {e e' : TypeId} {size size' n n' : Nat} {v v' : Value} {xs xs' : List Value} (h : w.ownsRow base e size v n xs) (h' : w.ownsRow base' e' size' v' n' xs') (hne : e ≠ e') : v.ownBlock = none ∨ v.ownBlock ≠ v'.ownBlock := by
  rcases h.2 with ⟨rfl, _⟩ | ⟨g, cap, cur, rfl, _, hh, _⟩
  · exact .inl rfl
  · rcases h'.2 with ⟨rfl, _⟩ | ⟨g', cap', cur', rfl, _, hh', _⟩
    · exact .inr (by simp [Value.ownBlock])
    · refine .inr fun e1 => ?_
      simp only [Value.ownBlock, Option.some.injEq] at e1
      subst e1
      rw [hh] at hh'
      injection hh' with h1
      injection h1 with _ h2
      exact hne h2
theorem Was.nil (w : World) (base : Nat) : Was w base (.slice none 0 0) [] := ⟨[], World.ownsRow_nil _ _ _ _, fun i us h => by simp at h⟩
theorem Was.below {w w' : World} {base : Nat} {v : Value} {rows : List (List UInt8)} (h : Was w base v rows) (hb : Below w.heap.size w w') : Was w' base v rows := by
  obtain ⟨xs, h1, h2⟩ := h
  have hg := grown_of_below hb none
  refine ⟨xs, h1.kept hg ?_, fun i us hu => ?_⟩
  · cases hv : v.ownBlock with
    | none => exact .inl rfl
    | some g => exact .inr (by simp)
  · obtain ⟨vi, h3, h4⟩ := h2 i us hu
    refine ⟨vi, h3, h4.kept hg ?_⟩
    cases hv : vi.ownBlock with
    | none => exact .inl rfl
    | some g => exact .inr (by simp)
theorem Was.push {w w' : World} {base : Nat} {v v' vi : Value} {rows : List (List UInt8)} {us : List UInt8} {xs : List Value} (h1 : w.ownsRow base 24 1 v rows.length xs)
    (h2 : ∀ (i : Nat) (us : List UInt8), rows[i]? = some us → ∃ vi, xs[i]? = some vi ∧ w.ownsRow base 5 1 vi us.length (bvs us)) (hi : w.ownsRow base 5 1 vi us.length (bvs us))
    (h3 : w'.ownsRow base 24 1 v' (rows.length + 1) (xs ++ [vi])) (hg : w.grownBy w' v.ownBlock) : Was w' base v' (rows ++ [us]) := by
  have hl : xs.length = rows.length := by simpa using h1.1
  refine ⟨xs ++ [vi], by simpa using h3, fun i us' hu => ?_⟩
  by_cases hlt : i < rows.length
  · rw [List.getElem?_append_left hlt] at hu
    obtain ⟨vj, h4, h5⟩ := h2 i us' hu
    exact ⟨vj, by rw [List.getElem?_append_left (by omega)]; exact h4, h5.kept hg (own_types h5 h1 (by decide))⟩
  · rw [List.getElem?_append_right (by omega)] at hu
    have hi0 : i - rows.length = 0 := by
      have := (List.getElem?_eq_some_iff.1 hu).1
      simp at this; omega
    rw [hi0] at hu
    simp at hu
    subst hu
    exact ⟨vi, by rw [List.getElem?_append_right (by omega), hl, hi0]; rfl, hi.kept hg (own_types hi h1 (by decide))⟩
end Go.Proofs.YtejnkohgecclbaaDoor
