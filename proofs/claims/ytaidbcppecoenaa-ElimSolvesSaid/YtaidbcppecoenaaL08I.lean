import Derived.Test.YtaidbcppecoenaaL08H
import Derived.Deep.SlicePairs
import Derived.Lib.SmallJoins
/- ElimPuts: lists of equations that came in; its other ways. -/
namespace Go.Proofs.Ytaidbcppecoenaa
open Go.RowKit
set_option linter.unusedVariables false
set_option maxRecDepth 100000

/-- A slice of equations, of any lengths. -/
def RL0 (w : World) (A : Option Addr) (n : Nat) (L : List RowL) : Prop :=
  n = L.length ∧ (0 < n → ∃ g o, A = some ⟨g, o, none⟩ ∧ g < w.heap.size ∧ ∀ i r, L[i]? = some r → ∃ A1 n1 c1 A2 n2 c2,
    w.cell? ⟨g, o + i * 2, none⟩ = some (.slice A1 n1 c1) ∧ w.cell? ⟨g, o + i * 2 + 1, none⟩ = some (.slice A2 n2 c2) ∧ Rd w w.heap.size A1 n1 r.1 ∧ Rd w w.heap.size A2 n2 r.2)
theorem RL0.step {w w' : World} {A : Option Addr} {n : Nat} {L : List RowL} (h : RL0 w A n L) (hb : Below w.heap.size w w') : RL0 w' A n L := by
  refine ⟨h.1, fun hn => ?_⟩
  obtain ⟨g, o, e, hg, hc⟩ := h.2 hn
  refine ⟨g, o, e, Nat.lt_of_lt_of_le hg hb.size, fun i r hi => ?_⟩
  obtain ⟨A1, n1, c1, A2, n2, c2, h0, h1, h2, h3⟩ := hc i r hi
  exact ⟨A1, n1, c1, A2, n2, c2, (hb.cell (p := ⟨g, o + i * 2, none⟩) hg).trans h0, (hb.cell (p := ⟨g, o + i * 2 + 1, none⟩) hg).trans h1, h2.step hb, h3.step hb⟩
theorem RL0.at_ {w : World} {A : Option Addr} {n k : Nat} {L : List RowL} (h : RL0 w A n L) (hk : k < n) : ∃ g o A1 n1 c1 A2 n2 c2, A = some ⟨g, o, none⟩ ∧
    w.cell? ⟨g, o + k * 2, none⟩ = some (.slice A1 n1 c1) ∧ w.cell? ⟨g, o + k * 2 + 1, none⟩ = some (.slice A2 n2 c2) ∧ Rd w w.heap.size A1 n1 (L[k]?.getD ([], [])).1 ∧ Rd w w.heap.size A2 n2 (L[k]?.getD ([], [])).2 := by
  obtain ⟨g, o, e, hg, hc⟩ := h.2 (by omega)
  have hl := h.1
  obtain ⟨A1, n1, c1, A2, n2, c2, h0, h1, h2, h3⟩ := hc k L[k] (List.getElem?_eq_getElem (by omega))
  refine ⟨g, o, A1, n1, c1, A2, n2, c2, e, h0, h1, ?_, ?_⟩ <;> rw [List.getElem?_eq_getElem (by omega)] <;> assumption
theorem RL0.rl {w : World} {A : Option Addr} {n m : Nat} {L : List RowL} (h : RL0 w A n L) (hs : ∀ r ∈ L, r.1.length ≤ m ∧ r.2.length ≤ m) (hm : m ≤ 140737488355327) : RL w w.heap.size A n L := by
  refine ⟨h.1, fun hn => ?_⟩
  obtain ⟨g, o, e, hg, hc⟩ := h.2 hn
  refine ⟨g, o, e, hg, hg, fun i r hi => ?_⟩
  obtain ⟨A1, n1, c1, A2, n2, c2, h0, h1, h2, h3⟩ := hc i r hi
  obtain ⟨s1, s2⟩ := hs r (List.mem_of_getElem? hi)
  have e1 := h2.1
  have e2 := h3.1
  exact ⟨A1, n1, c1, A2, n2, c2, h0, h1, RowIs.mk h2 h3 (by omega) (by omega)⟩
end Go.Proofs.Ytaidbcppecoenaa

