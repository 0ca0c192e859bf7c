import Derived.Test.YtilelmejpbnbnaaVecC
/- The calls on rows, each by a value that reads as a row. -/
namespace Go.Proofs.Ytilelmejpbnbnaa
open Go.RowKit
set_option linter.unusedVariables false
set_option maxRecDepth 100000

theorem RowEnds.of {w w1 w2 : World} {r : List UInt8 × List UInt8} {x : Value} (h : RowIs w1 r x) (hb1 : Below w.heap.size w w1) : RowEnds r w (.returned x) w1 := ⟨x, rfl, h, hb1⟩
theorem c_less {w : World} {r o : List UInt8 × List UInt8} {x y : Value} (a : UInt8) (h : RowIs w r x) (k : RowIs w o y) : Calls Try.prog 83 #[x, .int .u8 (bv a), y] w (RowEnds2 (lessR r a o) w) := by
  obtain ⟨A, n, c, A2, n2, c2, rfl, h1, h2, l1, l2⟩ := h
  obtain ⟨A3, n3, c3, A4, n4, c4, rfl, h3, h4, l3, l4⟩ := k
  exact vless_any a h1 h2 h3 h4 l1 l2 l3 l4
/-- A block that holds a row. -/
def Holds (w : World) (g : Nat) (T : TypeId) (r : List UInt8 × List UInt8) : Prop := ∃ A n c A2 n2 c2, Blk w g T #[.slice A n c, .slice A2 n2 c2] ∧ RowIs w r (.agg #[.slice A n c, .slice A2 n2 c2])
theorem Holds.step {w w' : World} {g : Nat} {T : TypeId} {r : List UInt8 × List UInt8} (h : Holds w g T r) (hb : Below w.heap.size w w') : Holds w' g T r := by
  obtain ⟨A, n, c, A2, n2, c2, h1, h2⟩ := h
  exact ⟨A, n, c, A2, n2, c2, h1.below hb h1.lt, h2.step hb⟩
/-- A variable that was made, and given a row. -/
theorem Holds.new {w : World} {T : TypeId} {r : List UInt8 × List UInt8} {A A2 : Option Addr} {n c n2 c2 : Nat} (h : RowIs w r (.agg #[.slice A n c, .slice A2 n2 c2])) : Holds (w.alloc (.cells #[.slice A n c, .slice A2 n2 c2] T)) w.heap.size T r :=
  ⟨A, n, c, A2, n2, c2, Blk.new _ _ _, h.step (balloc _ _)⟩
/-- A variable that was made before the row came. -/
theorem Holds.set {w : World} {T : TypeId} {r : List UInt8 × List UInt8} {g : Nat} {A A2 : Option Addr} {n c n2 c2 : Nat} (hg : Blk w g T #[.slice none 0 0, .slice none 0 0]) (h : RowIs w r (.agg #[.slice A n c, .slice A2 n2 c2])) : Holds ((w.setCell ⟨g, 0, none⟩ (.slice A n c)).setCell ⟨g, 1, none⟩ (.slice A2 n2 c2)) g T r := by
  obtain ⟨A', n', c', A2', n2', c2', e, h1, h2, l1, l2⟩ := h
  have hs : ((w.setCell ⟨g, 0, none⟩ (.slice A n c)).setCell ⟨g, 1, none⟩ (.slice A2 n2 c2)).heap.size = w.heap.size := by simp [World.setCell]
  injection e with e
  simp only [Array.mk.injEq, List.cons.injEq, Value.slice.injEq, and_true] at e
  obtain ⟨⟨rfl, rfl, rfl⟩, rfl, rfl, rfl⟩ := e
  refine ⟨_, _, _, _, _, _, hg.two, _, _, _, _, _, _, rfl, ?_, ?_, l1, l2⟩
  · exact (h1.set2 hg NoBytes.two).more (by rw [hs]; exact Nat.le_refl _)
  · exact (h2.set2 hg NoBytes.two).more (by rw [hs]; exact Nat.le_refl _)
end Go.Proofs.Ytilelmejpbnbnaa
