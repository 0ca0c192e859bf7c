import Derived.Test.YtaidbcppecoenaaR07C
/- The document's Insert: where a row belongs. -/
namespace Go.Proofs.Ytaidbcppecoenaa
open Go.RowKit
set_option linter.unusedVariables false
set_option maxRecDepth 100000

/-- How many rows lead ahead of place j, from the front on. -/
def placeL : List RowL → Int → Nat
  | [], _ => 0
  | o :: L, j => if leadI o.1 < j then placeL L j + 1 else 0
theorem place_le (L : List RowL) (j : Int) : placeL L j ≤ L.length := by
  induction L with
  | nil => simp [placeL]
  | cons o L ih =>
    unfold placeL
    split
    · simp; omega
    · omega
theorem place_lt {L : List RowL} {j : Int} {i : Nat} (h : i < placeL L j) : leadI (L[i]?.getD ([], [])).1 < j := by
  induction L generalizing i with
  | nil => simp [placeL] at h
  | cons o L ih =>
    unfold placeL at h
    split at h
    · rename_i h0
      cases i with
      | zero => simpa using h0
      | succ i => simpa using ih (by omega)
    · omega
theorem place_stop {L : List RowL} {j : Int} (h : placeL L j < L.length) : ¬ leadI (L[placeL L j]?.getD ([], [])).1 < j := by
  induction L with
  | nil => simp at h
  | cons o L ih =>
    unfold placeL at h ⊢
    split
    · rename_i h0
      rw [if_pos h0] at h
      simpa using ih (by simp at h; omega)
    · rename_i h0
      simpa using h0
/-- A row more, by the place where it leads. -/
def insL (L : List RowL) (r : RowL) : List RowL :=
  if leadI (normR (restL L r)).1 < 0 then L else L.take (placeL L (leadI (normR (restL L r)).1)) ++ [normR (restL L r)] ++ L.drop (placeL L (leadI (normR (restL L r)).1))
theorem ins_len (L : List RowL) (r : RowL) : (insL L r).length ≤ L.length + 1 := by
  unfold insL
  split
  · omega
  · have := place_le L (leadI (normR (restL L r)).1)
    simp
    omega
theorem ins_suit {n m : Nat} {L : List RowL} {r : RowL} (h : Suit n m L) (h1 : r.1.length = n) (h2 : r.2.length = m) : Suit n m (insL L r) := by
  unfold insL
  split
  · exact h
  · rename_i h0
    intro o ho
    simp only [List.mem_append, List.mem_singleton] at ho
    rcases ho with (ho | ho) | ho
    · exact h o (List.mem_of_mem_take ho)
    · subst ho
      obtain ⟨e1, e2⟩ := rest_len h r h1 h2
      obtain ⟨e3, e4⟩ := norm_len (restL L r)
      exact ⟨by omega, by omega, by omega⟩
    · exact h o (List.mem_of_mem_drop ho)
end Go.Proofs.Ytaidbcppecoenaa

