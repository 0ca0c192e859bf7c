import Derived.Test.YtheohcebiimdoaaVec
/- Rows, by value: what is made of them. -/
namespace Go.Proofs.Ytheohcebiimdoaa
open Go.RowKit
set_option linter.unusedVariables false
set_option maxRecDepth 100000

/-- The value reads as a row. -/
def RowIs (w : World) (r : List UInt8 × List UInt8) (x : Value) : Prop :=
  ∃ A n c A2 n2 c2, x = .agg #[.slice A n c, .slice A2 n2 c2] ∧ Rd w w.heap.size A n r.1 ∧ Rd w w.heap.size A2 n2 r.2 ∧ n ≤ 140737488355327 ∧ n2 ≤ 140737488355327
theorem RowIs.step {w w' : World} {r : List UInt8 × List UInt8} {x : Value} (h : RowIs w r x) (hb : Below w.heap.size w w') : RowIs w' r x := by
  obtain ⟨A, n, c, A2, n2, c2, e, h1, h2, l⟩ := h
  exact ⟨A, n, c, A2, n2, c2, e, h1.step hb, h2.step hb, l⟩
/-- Bytes do not lie in a block whose cells hold no bytes. -/
def NoBytes (cs : Array Value) : Prop := ∀ (i : Nat) (v : Value) (u : UInt8), cs[i]? = some v → v ≠ Value.int .u8 (bv u)
theorem NoBytes.two {A A2 : Option Addr} {n n2 c c2 : Nat} : NoBytes #[.slice A n c, .slice A2 n2 c2] := by
  intro i v u h e
  subst e
  match i, h with
  | 0, h => simp at h
  | 1, h => simp at h
  | i + 2, h => simp at h
theorem Rd.far {w w' : World} {B n g : Nat} {A : Option Addr} {us : List UInt8} {T : TypeId} {cs : Array Value} (h : Rd w B A n us) (hg : Blk w g T cs) (hn : NoBytes cs) (hk : ∀ p : Addr, p.block ≠ g → w'.cell? p = w.cell? p) : Rd w' B A n us :=
  ⟨h.1, fun hp => by
    obtain ⟨b, off, e, hb, hc⟩ := h.2 hp
    refine ⟨b, off, e, hb, fun i u hu => ?_⟩
    have h1 := hc i u hu
    rw [hk ⟨b, off + i, none⟩ ?_]
    · exact h1
    · intro hbg
      simp only at hbg
      subst hbg
      rw [hg.cell] at h1
      exact hn _ _ u h1 rfl⟩
theorem Blk.two {w : World} {g : Nat} {T : TypeId} {x y x0 y0 : Value} (hg : Blk w g T #[x0, y0]) : Blk ((w.setCell ⟨g, 0, none⟩ x).setCell ⟨g, 1, none⟩ y) g T #[x, y] := by
  have := (hg.set 0 x).set 1 y
  simpa using this
/-- What stands behind the last store: only block g has changed. -/
structure Last (g : Nat) (T : TypeId) (x y : Value) (w W : World) : Prop where
  blk : Blk W g T #[x, y]
  far : ∀ p : Addr, p.block ≠ g → W.cell? p = w.cell? p
  size : W.heap.size = w.heap.size
  below : ∀ B w0, B ≤ g → Below B w0 w → Below B w0 W
theorem Last.row {g : Nat} {T : TypeId} {x y x0 y0 : Value} {w W : World} {n : Nat} {A : Option Addr} {us : List UInt8} (hl : Last g T x y w W) (h : Rd w w.heap.size A n us) (hg : Blk w g T #[x0, y0]) (hn : NoBytes #[x0, y0]) : Rd W W.heap.size A n us :=
  (h.far hg hn hl.far).more (by rw [hl.size]; exact Nat.le_refl _)
theorem two_alloc {w : World} {T T2 : TypeId} {cs cs2 : Array Value} : Below w.heap.size w ((w.alloc (.cells cs T)).alloc (.cells cs2 T2)) ∧ Blk ((w.alloc (.cells cs T)).alloc (.cells cs2 T2)) w.heap.size T cs ∧ Blk ((w.alloc (.cells cs T)).alloc (.cells cs2 T2)) (w.heap.size + 1) T2 cs2 := by
  refine ⟨by go_grown, (Blk.new w T cs).alloc _, ?_⟩
  have := Blk.new (w.alloc (.cells cs T)) T2 cs2
  simpa using this
end Go.Proofs.Ytheohcebiimdoaa
