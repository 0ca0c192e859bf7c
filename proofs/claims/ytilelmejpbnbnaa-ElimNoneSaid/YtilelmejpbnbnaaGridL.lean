import Derived.Test.YtilelmejpbnbnaaGridK
/- grid.Inverse. -/
namespace Go.Proofs.Ytilelmejpbnbnaa
open Go.RowKit
set_option linter.unusedVariables false
set_option maxRecDepth 100000

/-! ### Rows, each with its unit -/
def pairs (n : Nat) (rows : List (List UInt8)) : List Pt := (List.range n).map fun i => pt (rows[i]?.getD [], unitL n i)
def InvSo (st : Nat → Option RowL) (n k : Nat) (rows : List (List UInt8)) : Prop := ∃ E, StE st E ∧ Ech E ∧ E.length = k ∧ Sized st n n ∧ ∀ m, Span (pts E) m ↔ Span ((pairs n rows).take k) m
/-- Where a row adds nothing, the rank is less than there are rows. -/
theorem InvSo.no {st : Nat → Option RowL} {n k r : Nat} {rows : List (List UInt8)} {us : List UInt8} {x : RowL} (h : InvSo st n k rows) (hk : k < n) (hn : rows.length = n) (hu : rows[k]?.getD [] = us) (h1 : us.length = n) (hC : Came st (us, unitL n k) x) (hi : leadI x.1 < 0) (hr : Rk (rows.map pt0) r) : r < n := by
  obtain ⟨E, e1, e2, e3, e4, e5⟩ := h
  have hsv : ∀ L : List Pt, Sub fun m => ∃ u, Span L u ∧ u.v = m.v := fun L => ⟨⟨Pt.zero, Span.zero _, rfl⟩, fun m c o ⟨u, u1, u2⟩ ⟨v, v1, v2⟩ => ⟨Pt.less u c v, Span.less c u1 v1, by
    funext j
    show u.v j ^^^ gm c (v.v j) = m.v j ^^^ gm c (o.v j)
    rw [u2, v2]⟩⟩
  have hx := (came_span e1 e4 (r := (us, unitL n k)) h1 (unitL_length _ _) hC (hsv (pts E)) fun f hf => ⟨f.2, pts_mem hf, rfl⟩).1 ⟨Pt.zero, Span.zero _, by funext j; exact (lead_fn_none hi j).symm⟩
  obtain ⟨u, u1, u2⟩ := hx
  replace u1 := (e5 _).1 u1
  have hkl : k < rows.length := by omega
  let L := (rows.take k ++ rows.drop (k + 1)).map pt0
  have hLl : L.length = n - 1 := by simp [L]; omega
  obtain ⟨t, t1, t2⟩ := Rk.exists (L := L) fun a ha => by
    obtain ⟨r, _, rfl⟩ := List.mem_map.1 ha
    exact pt0_d r
  have hmem : ∀ i, i < n → i ≠ k → pt0 (rows[i]?.getD []) ∈ L := fun i hi2 hne => by
    refine List.mem_map_of_mem ?_
    have hil : i < rows.length := by omega
    rw [List.getElem?_eq_getElem hil, Option.getD_some]
    rcases Nat.lt_or_gt_of_ne hne with hlt | hgt
    · exact List.mem_append_left _ (List.mem_take_iff_getElem.2 ⟨i, by omega, rfl⟩)
    · refine List.mem_append_right _ ?_
      rw [List.mem_drop_iff_getElem]
      exact ⟨i - (k + 1), by omega, by congr 1; omega⟩
  have hle := hr.le t2 fun a ha => by
    obtain ⟨s, hs, rfl⟩ := List.mem_map.1 ha
    obtain ⟨i, hil, rfl⟩ := List.getElem_of_mem hs
    by_cases hik : i = k
    · subst hik
      have hg : rows[i] = us := by rw [← hu, List.getElem?_eq_getElem hil]; rfl
      obtain ⟨m', m1, m2⟩ := Span.least (hsv L) (fun a ha => by
        obtain ⟨j, hj, rfl⟩ := List.getElem_of_mem ha
        have hj2 : j < i := by simp [pairs] at hj; omega
        refine ⟨_, Span.mem (hmem j (by omega) (by omega)), ?_⟩
        simp [pairs, pt0, pt]) u1
      refine ⟨m', m1, ?_⟩
      rw [m2, u2, hg]
      rfl
    · have := hmem i (by omega) hik
      rw [List.getElem?_eq_getElem hil, Option.getD_some] at this
      exact ⟨_, Span.mem this, rfl⟩
  omega
/-! ### The walk -/
end Go.Proofs.Ytilelmejpbnbnaa
