import Derived.Test.YtaidbcppecoenaaSysO
import Derived.Test.YtaidbcppecoenaaR07E
import Derived.Deep.RegionWith
/- The document's system: own lists of rows, and one of their rows set. -/
namespace Go.Proofs.Ytaidbcppecoenaa
open Go.RowKit
set_option linter.unusedVariables false
set_option maxRecDepth 100000

theorem CellsOf.step {w w' : World} {L : List RowL} {xs : List Value} (h : CellsOf w L xs) (hb : Below w.heap.size w w') : CellsOf w' L xs := ⟨h.1, fun i r hi => by
  obtain ⟨A1, n1, c1, A2, n2, c2, e0, e1, hr⟩ := h.2 i r hi
  exact ⟨A1, n1, c1, A2, n2, c2, e0, e1, hr.step hb⟩⟩
/-- A list of rows of the call's own, read as it stands. -/
def OwnR (w : World) (B : Nat) (v : Value) (L : List RowL) : Prop := WasR w w B v L
theorem OwnR.nil (w : World) (B : Nat) : OwnR w B (.slice none 0 0) [] := WasR.nil _ _ _
theorem OwnR.step {w w' : World} {B : Nat} {v : Value} {L : List RowL} (h : OwnR w B v L) (hb : Below w.heap.size w w') : OwnR w' B v L := by
  obtain ⟨xs, h1, h2⟩ := h
  have hg := grown_of_below hb none
  refine ⟨xs, h1.kept hg ?_, h2.step hb⟩
  cases hv : v.ownBlock with
  | none => exact .inl rfl
  | some g => exact .inr (by simp)
theorem OwnR.mono {w : World} {B B' : Nat} {v : Value} {L : List RowL} (h : OwnR w B v L) (hb : B' ≤ B) : OwnR w B' v L := by
  obtain ⟨xs, h1, h2⟩ := h
  exact ⟨xs, own_mono h1 hb, h2⟩
theorem OwnR.rl {w : World} {B : Nat} {v : Value} {L : List RowL} (h : OwnR w B v L) : ∃ A c, v = .slice A L.length c ∧ RL w w.heap.size A L.length L ∧ L.length ≤ c ∧ c ≤ 9223372036854775807 := by
  obtain ⟨xs, h1, h2⟩ := h
  rcases h1.2 with ⟨rfl, h0⟩ | ⟨g, cap, cur, rfl, hg, hh, hn, hm, hs, ht⟩
  · have : L = [] := List.eq_nil_of_length_eq_zero h0
    subst this
    exact ⟨none, 0, rfl, RL.nil, by simp, by omega⟩
  · have hB : Blk w g 65 cur := hh
    refine ⟨_, cap, rfl, ⟨rfl, fun h0 => ⟨g, 0, rfl, hB.lt, hB.lt, fun i r hi => ?_⟩⟩, hn, by unfold maxLen at hm; exact hm⟩
    obtain ⟨A1, n1, c1, A2, n2, c2, e0, e1, hr⟩ := h2.2 i r hi
    have hlt := (List.getElem?_eq_some_iff.1 hi).1
    refine ⟨A1, n1, c1, A2, n2, c2, ?_, ?_, hr⟩
    · rw [hB.cell, ← Array.getElem?_toList, ← e0, ← ht, List.getElem?_take, if_pos (by omega)]; congr 1; omega
    · rw [hB.cell, ← Array.getElem?_toList, ← e1, ← ht, List.getElem?_take, if_pos (by omega)]; congr 1; omega
/-- One row of it. -/
theorem OwnR.at_ {w : World} {B i : Nat} {v : Value} {L : List RowL} (h : OwnR w B v L) (hi : i < L.length) : ∃ g c A1 n1 c1 A2 n2 c2, v = .slice (some ⟨g, 0, none⟩) L.length c ∧ B ≤ g ∧ g < w.heap.size ∧
    w.cell? ⟨g, i * 2, none⟩ = some (.slice A1 n1 c1) ∧ w.cell? ⟨g, i * 2 + 1, none⟩ = some (.slice A2 n2 c2) ∧ RowIs w (L[i]?.getD ([], [])) (.agg #[.slice A1 n1 c1, .slice A2 n2 c2]) ∧ w.frozen? ⟨g, i * 2, none⟩ = false ∧ w.frozen? ⟨g, i * 2 + 1, none⟩ = false := by
  obtain ⟨xs, h1, h2⟩ := h
  rcases h1.2 with ⟨rfl, h0⟩ | ⟨g, cap, cur, rfl, hg, hh, hn, hm, hs, ht⟩
  · omega
  · have hB : Blk w g 65 cur := hh
    obtain ⟨A1, n1, c1, A2, n2, c2, e0, e1, hr⟩ := h2.2 i L[i] (List.getElem?_eq_getElem hi)
    rw [List.getElem?_eq_getElem hi]
    refine ⟨g, cap, A1, n1, c1, A2, n2, c2, rfl, hg, hB.lt, ?_, ?_, hr, hB.frozen _, hB.frozen _⟩
    · rw [hB.cell, ← Array.getElem?_toList, ← e0, ← ht, List.getElem?_take, if_pos (by omega)]
    · rw [hB.cell, ← Array.getElem?_toList, ← e1, ← ht, List.getElem?_take, if_pos (by omega)]
/-- A store over what is no byte changes no row of bytes. -/
theorem Rd.over {w : World} {B n : Nat} {A : Option Addr} {us : List UInt8} {p : Addr} {x y : Value} (h : Rd w B A n us) (hp : w.cell? p = some y) (hy : ∀ u, y ≠ .int .u8 (bv u)) : Rd (w.setCell p x) B A n us :=
  ⟨h.1, fun hn => by
    obtain ⟨b, off, e, hb, hc⟩ := h.2 hn
    refine ⟨b, off, e, hb, fun j u hu => ?_⟩
    have h1 := hc j u hu
    rw [World.cell?_setCell_other w p ⟨b, off + j, none⟩ x fun e => ?_]
    · exact h1
    · rw [← e, hp] at h1
      injection h1 with h1
      exact hy u h1⟩
theorem RowIs.over {w : World} {r : RowL} {z : Value} {p : Addr} {x y : Value} (h : RowIs w r z) (hp : w.cell? p = some y) (hy : ∀ u, y ≠ .int .u8 (bv u)) : RowIs (w.setCell p x) r z := by
  obtain ⟨A, n, c, A2, n2, c2, rfl, h1, h2, l1, l2⟩ := h
  have hs : (w.setCell p x).heap.size = w.heap.size := by simp [World.setCell]
  exact RowIs.mk ((h1.over hp hy).more (by rw [hs]; exact Nat.le_refl _)) ((h2.over hp hy).more (by rw [hs]; exact Nat.le_refl _)) l1 l2
theorem slice_noByte (A : Option Addr) (n c : Nat) (u : UInt8) : Value.slice A n c ≠ .int .u8 (bv u) := by intro h; cases h
theorem OwnR.set {w : World} {B i n1 c1 n2 c2 g n c : Nat} {A1 A2 : Option Addr} {L : List RowL} {r : RowL} (h : OwnR w B (.slice (some ⟨g, 0, none⟩) n c) L) (hi : i < L.length) (hr : RowIs w r (.agg #[.slice A1 n1 c1, .slice A2 n2 c2])) :
    OwnR ((w.setCell ⟨g, i * 2, none⟩ (.slice A1 n1 c1)).setCell ⟨g, i * 2 + 1, none⟩ (.slice A2 n2 c2)) B (.slice (some ⟨g, 0, none⟩) n c) (L.set i r) := by
  obtain ⟨g', c', B1, m1, d1, B2, m2, d2, ev, hg, hlt, k0, k1, hri, f0, f1⟩ := h.at_ hi
  injection ev with e1 e2 e3
  injection e1 with e1
  injection e1 with e1
  subst e1 e2 e3
  obtain ⟨xs, h1, h2⟩ := h
  have k1' : (w.setCell ⟨g, i * 2, none⟩ (.slice A1 n1 c1)).cell? ⟨g, i * 2 + 1, none⟩ = some (.slice B2 m2 d2) := by
    rw [World.cell?_setCell_other _ _ _ _ (by simp)]; exact k1
  have keep : ∀ {q : RowL} {z : Value}, RowIs w q z → RowIs ((w.setCell ⟨g, i * 2, none⟩ (.slice A1 n1 c1)).setCell ⟨g, i * 2 + 1, none⟩ (.slice A2 n2 c2)) q z := fun hq => (hq.over k0 (slice_noByte _ _ _)).over k1' (slice_noByte _ _ _)
  rcases h1.2 with ⟨e, _⟩ | ⟨g2, cap, cur, e, hg2, hh, hn, hm, hs, ht⟩
  · cases e
  · injection e with e1 e2 e3
    injection e1 with e1
    injection e1 with e1
    subst e1 e3
    have hB : Blk w g 65 cur := hh
    have hB2 := (hB.set (i * 2) (.slice A1 n1 c1)).set (i * 2 + 1) (.slice A2 n2 c2)
    have hxl : xs.length = L.length * 2 := h2.1
    refine ⟨(xs.set (i * 2) (.slice A1 n1 c1)).set (i * 2 + 1) (.slice A2 n2 c2), ⟨by simp [hxl], .inr ⟨g, c, _, by rw [List.length_set], hg, hB2, by simpa using hn, hm, by simpa using hs, ?_⟩⟩, ⟨by simp [hxl], fun j q hj => ?_⟩⟩
    · rw [List.length_set]
      simp only [Array.toList_setIfInBounds, List.take_set]
      rw [ht]
    · have hjl : j < L.length := by have := (List.getElem?_eq_some_iff.1 hj).1; simpa using this
      by_cases hji : j = i
      · subst hji
        rw [List.getElem?_set_self hi] at hj
        injection hj with hj
        subst hj
        refine ⟨A1, n1, c1, A2, n2, c2, ?_, ?_, keep hr⟩
        · rw [List.getElem?_set_ne (by omega), List.getElem?_set_self (by omega)]
        · rw [List.getElem?_set_self (by simp; omega)]
      · rw [List.getElem?_set_ne (fun e => hji e.symm)] at hj
        obtain ⟨C1, l1, s1, C2, l2, s2, e0, e1, hq⟩ := h2.2 j q hj
        refine ⟨C1, l1, s1, C2, l2, s2, ?_, ?_, keep hq⟩
        · rw [List.getElem?_set_ne (by omega), List.getElem?_set_ne (by omega)]; exact e0
        · rw [List.getElem?_set_ne (by omega), List.getElem?_set_ne (by omega)]; exact e1
theorem OwnR.other {w : World} {B h i : Nat} {v x y : Value} {L : List RowL} (hL : OwnR w B v L) (hh : h < B) (hp : w.cell? ⟨h, i, none⟩ = some y) (hy : ∀ u, y ≠ .int .u8 (bv u)) : OwnR (w.setCell ⟨h, i, none⟩ x) B v L := by
  obtain ⟨xs, h1, h2, h3⟩ := hL
  refine ⟨xs, ?_, h2, fun j r hj => ?_⟩
  · refine ⟨h1.1, ?_⟩
    rcases h1.2 with h4 | ⟨g, cap, cur, e, hg, hhp, h5⟩
    · exact .inl h4
    · exact .inr ⟨g, cap, cur, e, hg, (Below.heap_setCell w ⟨h, i, none⟩ x g (by simp; omega)).trans hhp, h5⟩
  · obtain ⟨A1, n1, c1, A2, n2, c2, e0, e1, hr⟩ := h3 j r hj
    exact ⟨A1, n1, c1, A2, n2, c2, e0, e1, hr.over hp hy⟩
end Go.Proofs.Ytaidbcppecoenaa

/- The document's system: its rows. -/
namespace Go.Proofs.Ytaidbcppecoenaa
open Go.RowKit
set_option linter.unusedVariables false
set_option maxRecDepth 100000

end Go.Proofs.Ytaidbcppecoenaa

/- The document's system: what is left of an equation. -/
namespace Go.Proofs.Ytaidbcppecoenaa
open Go.RowKit
set_option linter.unusedVariables false
set_option maxRecDepth 100000

end Go.Proofs.Ytaidbcppecoenaa

