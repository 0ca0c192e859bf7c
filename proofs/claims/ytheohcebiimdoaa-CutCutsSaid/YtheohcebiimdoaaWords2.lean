import Derived.Test.YtheohcebiimdoaaWords
/- More words of memory: rows of rows that the call itself made. -/
namespace Go.Proofs.Ytheohcebiimdoaa
open Go.RowKit
set_option linter.unusedVariables false
set_option maxRecDepth 100000

/-! ### A row of rows of the call's own -/
theorem row_info : (Try.prog.info? 25).map (fun i => (i.zero, i.size, i.bytes)) = some (some (.slice none 0 0), 1, 24) := by kernel_rfl
def Was (w : World) (base : Nat) (v : Value) (rows : List (List UInt8)) : Prop :=
  ∃ xs, w.ownsRow base 25 1 v rows.length xs ∧ ∀ (i : Nat) (us : List UInt8), rows[i]? = some us → ∃ vi, xs[i]? = some vi ∧ w.ownsRow base 5 1 vi us.length (bvs us)
theorem own_types {w : World} {base base' : Nat} {e e' : TypeId} {size size' n n' : Nat} {v v' : Value} {xs xs' : List Value} (h : w.ownsRow base e size v n xs) (h' : w.ownsRow base' e' size' v' n' xs') (hne : e ≠ e') : v.ownBlock = none ∨ v.ownBlock ≠ v'.ownBlock := by
  rcases h.2 with ⟨rfl, _⟩ | ⟨g, cap, cur, rfl, _, hh, _⟩
  · exact .inl rfl
  · rcases h'.2 with ⟨rfl, _⟩ | ⟨g', cap', cur', rfl, _, hh', _⟩
    · exact .inr (by simp [Value.ownBlock])
    · refine .inr fun e1 => ?_
      simp only [Value.ownBlock, Option.some.injEq] at e1
      subst e1
      rw [hh] at hh'
      injection hh' with h1
      injection h1 with _ h2
      exact hne h2
theorem Was.nil (w : World) (base : Nat) : Was w base (.slice none 0 0) [] := ⟨[], World.ownsRow_nil _ _ _ _, fun i us h => by simp at h⟩
theorem Was.below {w w' : World} {base : Nat} {v : Value} {rows : List (List UInt8)} (h : Was w base v rows) (hb : Below w.heap.size w w') : Was w' base v rows := by
  obtain ⟨xs, h1, h2⟩ := h
  have hg := grown_of_below hb none
  refine ⟨xs, h1.kept hg ?_, fun i us hu => ?_⟩
  · cases hv : v.ownBlock with
    | none => exact .inl rfl
    | some g => exact .inr (by simp)
  · obtain ⟨vi, h3, h4⟩ := h2 i us hu
    refine ⟨vi, h3, h4.kept hg ?_⟩
    cases hv : vi.ownBlock with
    | none => exact .inl rfl
    | some g => exact .inr (by simp)
theorem Was.push {w w' : World} {base : Nat} {v v' vi : Value} {rows : List (List UInt8)} {us : List UInt8} {xs : List Value} (h1 : w.ownsRow base 25 1 v rows.length xs)
    (h2 : ∀ (i : Nat) (us : List UInt8), rows[i]? = some us → ∃ vi, xs[i]? = some vi ∧ w.ownsRow base 5 1 vi us.length (bvs us)) (hi : w.ownsRow base 5 1 vi us.length (bvs us))
    (h3 : w'.ownsRow base 25 1 v' (rows.length + 1) (xs ++ [vi])) (hg : w.grownBy w' v.ownBlock) : Was w' base v' (rows ++ [us]) := by
  have hl : xs.length = rows.length := by simpa using h1.1
  refine ⟨xs ++ [vi], by simpa using h3, fun i us' hu => ?_⟩
  by_cases hlt : i < rows.length
  · rw [List.getElem?_append_left hlt] at hu
    obtain ⟨vj, h4, h5⟩ := h2 i us' hu
    exact ⟨vj, by rw [List.getElem?_append_left (by omega)]; exact h4, h5.kept hg (own_types h5 h1 (by decide))⟩
  · rw [List.getElem?_append_right (by omega)] at hu
    have hi0 : i - rows.length = 0 := by
      have := (List.getElem?_eq_some_iff.1 hu).1
      simp at this; omega
    rw [hi0] at hu
    simp at hu
    subst hu
    exact ⟨vi, by rw [List.getElem?_append_right (by omega), hl, hi0]; rfl, hi.kept hg (own_types hi h1 (by decide))⟩
theorem Was.rds {w : World} {base : Nat} {v : Value} {rows : List (List UInt8)} (h : Was w base v rows) : ∃ A c, v = .slice A rows.length c ∧ Rds w w.heap.size A rows.length rows := by
  obtain ⟨xs, h1, h2⟩ := h
  have hl : xs.length = rows.length := by simpa using h1.1
  rcases h1.2 with ⟨rfl, h0⟩ | ⟨g, cap, cur, rfl, hb, hh, hn, hm, hs, ht⟩
  · exact ⟨none, 0, by rw [h0], rfl, fun h => absurd h (by omega)⟩
  · refine ⟨some ⟨g, 0, none⟩, cap, rfl, rfl, fun _ => ⟨g, 0, rfl, Blk.lt hh, fun i us hu => ?_⟩⟩
    have hi : i < rows.length := (List.getElem?_eq_some_iff.1 hu).1
    obtain ⟨vi, h3, h4⟩ := h2 i us hu
    obtain ⟨Ai, ci, rfl, hr⟩ := Rd.of_own h4
    refine ⟨Ai, ci, ?_, hr⟩
    rw [Nat.zero_add, Blk.cell hh i]
    rw [← ht, List.getElem?_take, if_pos (by omega)] at h3
    simpa using h3
end Go.Proofs.Ytheohcebiimdoaa
