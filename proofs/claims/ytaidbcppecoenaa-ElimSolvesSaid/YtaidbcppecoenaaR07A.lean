import Derived.Test.YtaidbcppecoenaaGridF
import Derived.Deep.DeepCutAuto
import Derived.Deep.CutRange
import Derived.Deep.RegionWith
/- The document's lists of rows: what is left of a row behind them. -/
namespace Go.Proofs.Ytaidbcppecoenaa
open Go.RowKit
set_option linter.unusedVariables false
set_option maxRecDepth 100000

/-- A slice of rows, of two cells each, in a block below B. -/
def RL (w : World) (B : Nat) (A : Option Addr) (n : Nat) (L : List RowL) : Prop :=
  n = L.length ∧ (0 < n → ∃ g o, A = some ⟨g, o, none⟩ ∧ g < B ∧ g < w.heap.size ∧ ∀ i r, L[i]? = some r → ∃ A1 n1 c1 A2 n2 c2,
    w.cell? ⟨g, o + i * 2, none⟩ = some (.slice A1 n1 c1) ∧ w.cell? ⟨g, o + i * 2 + 1, none⟩ = some (.slice A2 n2 c2) ∧ RowIs w r (.agg #[.slice A1 n1 c1, .slice A2 n2 c2]))
theorem RL.nil {w : World} {B : Nat} {A : Option Addr} : RL w B A 0 [] := ⟨rfl, fun h => absurd h (by omega)⟩
theorem RL.more {w : World} {B C : Nat} {A : Option Addr} {n : Nat} {L : List RowL} (h : RL w B A n L) (hc : B ≤ C) : RL w C A n L := by
  refine ⟨h.1, fun hn => ?_⟩
  obtain ⟨g, o, e, hB, hg, hr⟩ := h.2 hn
  exact ⟨g, o, e, by omega, hg, hr⟩
theorem RL.step {w w' : World} {B : Nat} {A : Option Addr} {n : Nat} {L : List RowL} (h : RL w B A n L) (hb : Below w.heap.size w w') : RL w' B A n L := by
  refine ⟨h.1, fun hn => ?_⟩
  obtain ⟨g, o, e, hB, hg, hc⟩ := h.2 hn
  refine ⟨g, o, e, hB, Nat.lt_of_lt_of_le hg hb.size, fun i r hi => ?_⟩
  obtain ⟨A1, n1, c1, A2, n2, c2, h0, h1, hr⟩ := hc i r hi
  exact ⟨A1, n1, c1, A2, n2, c2, (hb.cell (p := ⟨g, o + i * 2, none⟩) hg).trans h0, (hb.cell (p := ⟨g, o + i * 2 + 1, none⟩) hg).trans h1, hr.step hb⟩
theorem RL.far2 {w : World} {B h i j n : Nat} {A : Option Addr} {L : List RowL} {T : TypeId} {cs : Array Value} {x y : Value} (hL : RL w B A n L) (hh : Blk w h T cs) (hn : NoBytes cs) (hB : B ≤ h) : RL ((w.setCell ⟨h, i, none⟩ x).setCell ⟨h, j, none⟩ y) B A n L := by
  refine ⟨hL.1, fun h0 => ?_⟩
  obtain ⟨g, o, e, hg, hw, hc⟩ := hL.2 h0
  refine ⟨g, o, e, hg, by simpa [World.setCell] using hw, fun k r hi => ?_⟩
  obtain ⟨A1, n1, c1, A2, n2, c2, k0, k1, hr⟩ := hc k r hi
  have hne : h ≠ g := by omega
  refine ⟨A1, n1, c1, A2, n2, c2, ?_, ?_, hr.setTwo hh hn⟩
  · rw [World.cell?_setCell_far _ _ _ _ (fun e => hne e), World.cell?_setCell_far _ _ _ _ (fun e => hne e)]; exact k0
  · rw [World.cell?_setCell_far _ _ _ _ (fun e => hne e), World.cell?_setCell_far _ _ _ _ (fun e => hne e)]; exact k1
theorem RL.at_ {w : World} {B : Nat} {A : Option Addr} {n k : Nat} {L : List RowL} (h : RL w B A n L) (hk : k < n) : ∃ g o A1 n1 c1 A2 n2 c2, A = some ⟨g, o, none⟩ ∧
    w.cell? ⟨g, o + k * 2, none⟩ = some (.slice A1 n1 c1) ∧ w.cell? ⟨g, o + k * 2 + 1, none⟩ = some (.slice A2 n2 c2) ∧ RowIs w (L[k]?.getD ([], [])) (.agg #[.slice A1 n1 c1, .slice A2 n2 c2]) := by
  obtain ⟨g, o, e, hB, hg, hc⟩ := h.2 (by omega)
  have hl := h.1
  obtain ⟨A1, n1, c1, A2, n2, c2, h0, h1, hr⟩ := hc k L[k] (List.getElem?_eq_getElem (by omega))
  refine ⟨g, o, A1, n1, c1, A2, n2, c2, e, h0, h1, ?_⟩
  rw [List.getElem?_eq_getElem (by omega)]
  exact hr
/-- What is left of a row behind others, one by one. -/
def restL (L : List RowL) (x : RowL) : RowL := L.foldl (fun x o => lessAt x o (leadI o.1)) x
/-- Rows of one size, of which each leads. -/
def Suit (n m : Nat) (L : List RowL) : Prop := ∀ o ∈ L, o.1.length = n ∧ o.2.length = m ∧ 0 ≤ leadI o.1
theorem rest_len {n m : Nat} {L : List RowL} (h : Suit n m L) (x : RowL) (h1 : x.1.length = n) (h2 : x.2.length = m) : (restL L x).1.length = n ∧ (restL L x).2.length = m := by
  induction L generalizing x with
  | nil => exact ⟨h1, h2⟩
  | cons o L ih =>
    obtain ⟨z1, z2, _⟩ := h o (by simp)
    have h3 := lessAt_len (i := leadI o.1) (show o.1.length = x.1.length by omega) (show o.2.length = x.2.length by omega)
    exact ih (fun o ho => h o (by simp [ho])) _ (h3.1.trans h1) (h3.2.trans h2)
theorem rest_snoc (L : List RowL) (x : RowL) (k : Nat) (hk : k < L.length) : restL (L.take (k + 1)) x = lessAt (restL (L.take k) x) (L[k]?.getD ([], [])) (leadI (L[k]?.getD ([], [])).1) := by
  unfold restL
  rw [List.take_add_one, List.foldl_append, List.getElem?_eq_getElem hk]
  rfl
theorem suit_take {n m : Nat} {L : List RowL} (h : Suit n m L) (k : Nat) : Suit n m (L.take k) := fun o ho => h o (List.mem_of_mem_take ho)
theorem suit_at {n m k : Nat} {L : List RowL} (h : Suit n m L) (hk : k < L.length) : (L[k]?.getD ([], [])).1.length = n ∧ (L[k]?.getD ([], [])).2.length = m ∧ 0 ≤ leadI (L[k]?.getD ([], [])).1 := by
  rw [List.getElem?_eq_getElem hk]
  exact h _ (List.getElem_mem hk)
end Go.Proofs.Ytaidbcppecoenaa

