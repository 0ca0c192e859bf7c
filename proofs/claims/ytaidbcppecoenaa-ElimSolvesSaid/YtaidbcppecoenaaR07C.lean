import Derived.Test.YtaidbcppecoenaaR07A
/- The document's lists of rows: rows appended. -/
namespace Go.Proofs.Ytaidbcppecoenaa
open Go.RowKit
set_option linter.unusedVariables false
set_option maxRecDepth 100000

/-- Cells, two for each row, that read as these rows. -/
def CellsOf (w : World) (L : List RowL) (xs : List Value) : Prop := xs.length = L.length * 2 ∧ ∀ i r, L[i]? = some r → ∃ A1 n1 c1 A2 n2 c2,
  xs[i * 2]? = some (.slice A1 n1 c1) ∧ xs[i * 2 + 1]? = some (.slice A2 n2 c2) ∧ RowIs w r (.agg #[.slice A1 n1 c1, .slice A2 n2 c2])
theorem CellsOf.nil (w : World) : CellsOf w [] [] := ⟨rfl, fun i r h => by simp at h⟩
theorem CellsOf.append {w : World} {L M : List RowL} {xs ys : List Value} (h : CellsOf w L xs) (k : CellsOf w M ys) : CellsOf w (L ++ M) (xs ++ ys) := by
  refine ⟨by simp [h.1, k.1]; omega, fun i r hi => ?_⟩
  by_cases hl : i < L.length
  · rw [List.getElem?_append_left hl] at hi
    obtain ⟨A1, n1, c1, A2, n2, c2, e0, e1, hr⟩ := h.2 i r hi
    have := h.1
    exact ⟨A1, n1, c1, A2, n2, c2, by rw [List.getElem?_append_left (by omega)]; exact e0, by rw [List.getElem?_append_left (by omega)]; exact e1, hr⟩
  · rw [List.getElem?_append_right (by omega)] at hi
    obtain ⟨A1, n1, c1, A2, n2, c2, e0, e1, hr⟩ := k.2 _ r hi
    have hx := h.1
    refine ⟨A1, n1, c1, A2, n2, c2, ?_, ?_, hr⟩
    · rw [List.getElem?_append_right (by omega), ← e0]; congr 1; omega
    · rw [List.getElem?_append_right (by omega), ← e1]; congr 1; omega
theorem CellsOf.one {w : World} {r : RowL} {A1 A2 : Option Addr} {n1 c1 n2 c2 : Nat} (h : RowIs w r (.agg #[.slice A1 n1 c1, .slice A2 n2 c2])) : CellsOf w [r] [.slice A1 n1 c1, .slice A2 n2 c2] := by
  refine ⟨rfl, fun i q hi => ?_⟩
  match i, hi with
  | 0, hi =>
    simp at hi
    subst hi
    exact ⟨A1, n1, c1, A2, n2, c2, rfl, rfl, h⟩
theorem CellsOf.oneCell {w : World} {L : List RowL} {xs : List Value} (h : CellsOf w L xs) : ∀ u ∈ xs, u.oneCell' = true := by
  intro u hu
  obtain ⟨j, hj, e⟩ := List.getElem_of_mem hu
  have hl := h.1
  obtain ⟨A1, n1, c1, A2, n2, c2, e0, e1, _⟩ := h.2 (j / 2) L[j / 2] (List.getElem?_eq_getElem (by omega))
  have e2 : xs[j]? = some u := by rw [List.getElem?_eq_getElem hj, e]
  rcases Nat.mod_two_eq_zero_or_one j with hm | hm
  · have : j / 2 * 2 = j := by omega
    rw [this, e2] at e0
    injection e0 with e0
    subst e0
    rfl
  · have : j / 2 * 2 + 1 = j := by omega
    rw [this, e2] at e1
    injection e1 with e1
    subst e1
    rfl
theorem RL.take {w : World} {B : Nat} {A : Option Addr} {n k : Nat} {L : List RowL} (h : RL w B A n L) (hk : k ≤ n) : RL w B A k (L.take k) := by
  refine ⟨by rw [List.length_take]; have := h.1; omega, fun h0 => ?_⟩
  obtain ⟨g, o, e, hB, hg, hc⟩ := h.2 (by omega)
  refine ⟨g, o, e, hB, hg, fun i r hi => hc i r ?_⟩
  rw [List.getElem?_take] at hi
  split at hi
  · exact hi
  · cases hi
theorem RL.drop {w : World} {B g o : Nat} {n k : Nat} {L : List RowL} (h : RL w B (some ⟨g, o, none⟩) n L) : RL w B (some ⟨g, o + k * 2, none⟩) (n - k) (L.drop k) := by
  refine ⟨by rw [List.length_drop]; have := h.1; omega, fun h0 => ?_⟩
  obtain ⟨g', o', e, hB, hg, hc⟩ := h.2 (by omega)
  injection e with e
  injection e with e1 e2 e3
  subst e1 e2
  refine ⟨g, o + k * 2, rfl, hB, hg, fun i r hi => ?_⟩
  rw [List.getElem?_drop] at hi
  obtain ⟨A1, n1, c1, A2, n2, c2, h0, h1, hr⟩ := hc _ r hi
  refine ⟨A1, n1, c1, A2, n2, c2, ?_, ?_, hr⟩
  · rw [← h0]; congr 2; omega
  · rw [← h1]; congr 2; omega
/-- The cells of a slice of rows. -/
theorem RL.cells {w : World} {B : Nat} {A : Option Addr} {n : Nat} {L : List RowL} (h : RL w B A n L) (hn : 0 < n) : ∃ g o news, A = some ⟨g, o, none⟩ ∧ g < B ∧ CellsOf w L news ∧ ∀ j u, news[j]? = some u → w.cell? ((⟨g, o, none⟩ : Addr).add j) = some u := by
  obtain ⟨g, o, e, hB, hg, hc⟩ := h.2 hn
  have hl := h.1
  have key : ∀ j, j < L.length * 2 → ∃ u, w.cell? ⟨g, o + j, none⟩ = some u := by
    intro j hj
    obtain ⟨A1, n1, c1, A2, n2, c2, h0, h1, _⟩ := hc (j / 2) L[j / 2] (List.getElem?_eq_getElem (by omega))
    rcases Nat.mod_two_eq_zero_or_one j with hm | hm
    · exact ⟨_, by rw [← h0]; congr 2; omega⟩
    · exact ⟨_, by rw [← h1]; congr 2; omega⟩
  refine ⟨g, o, (List.range (L.length * 2)).map fun j => (w.cell? ⟨g, o + j, none⟩).getD (.bool false), e, hB, ⟨by simp, fun i r hi => ?_⟩, fun j u hu => ?_⟩
  · obtain ⟨A1, n1, c1, A2, n2, c2, h0, h1, hr⟩ := hc i r hi
    have hlt := (List.getElem?_eq_some_iff.1 hi).1
    refine ⟨A1, n1, c1, A2, n2, c2, ?_, ?_, hr⟩
    · rw [List.getElem?_map, List.getElem?_range (by omega)]; simp [h0]
    · rw [List.getElem?_map, List.getElem?_range (by omega)]
      have h1' : w.cell? ⟨g, o + (i * 2 + 1), none⟩ = some (.slice A2 n2 c2) := h1
      simp [h1']
  · rw [List.getElem?_map] at hu
    by_cases hj : j < L.length * 2
    · rw [List.getElem?_range hj] at hu
      obtain ⟨x, hx⟩ := key j hj
      simp [hx] at hu
      subst hu
      rw [addr_add]
      exact hx
    · rw [List.getElem?_eq_none (by simp; omega)] at hu
      cases hu
/-- A list of rows of the call's own; its rows are read where it was begun. -/
def WasR (wx : World) (w : World) (base : Nat) (v : Value) (L : List RowL) : Prop := ∃ xs, w.ownsRow base 65 2 v L.length xs ∧ CellsOf wx L xs
theorem WasR.nil (wx w : World) (base : Nat) : WasR wx w base (.slice none 0 0) [] := ⟨[], World.ownsRow_nil _ _ _ _, CellsOf.nil _⟩
theorem WasR.rl {wx w : World} {v : Value} {L : List RowL} (h : WasR wx w wx.heap.size v L) (hb : Below wx.heap.size wx w) : ∃ A c, v = .slice A L.length c ∧ RL w w.heap.size A L.length L ∧ L.length ≤ c ∧ c ≤ 9223372036854775807 := by
  obtain ⟨xs, h1, h2⟩ := h
  rcases h1.2 with ⟨rfl, h0⟩ | ⟨g, cap, cur, rfl, hg, hh, hn, hm, hs, ht⟩
  · have : L = [] := List.eq_nil_of_length_eq_zero h0
    subst this
    exact ⟨none, 0, rfl, RL.nil, by simp, by omega⟩
  · have hB : Blk w g 65 cur := hh
    refine ⟨_, cap, rfl, ⟨rfl, fun h0 => ⟨g, 0, rfl, hB.lt, hB.lt, fun i r hi => ?_⟩⟩, hn, by unfold maxLen at hm; exact hm⟩
    obtain ⟨A1, n1, c1, A2, n2, c2, e0, e1, hr⟩ := h2.2 i r hi
    have hlt := (List.getElem?_eq_some_iff.1 hi).1
    refine ⟨A1, n1, c1, A2, n2, c2, ?_, ?_, hr.step hb⟩
    · rw [hB.cell, ← Array.getElem?_toList, ← e0, ← ht, List.getElem?_take, if_pos (by omega)]; congr 1; omega
    · rw [hB.cell, ← Array.getElem?_toList, ← e1, ← ht, List.getElem?_take, if_pos (by omega)]; congr 1; omega
end Go.Proofs.Ytaidbcppecoenaa

