import Derived.Test.YtheohcebiimdoaaCut
import Derived.Test.YtheohcebiimdoaaRef11
import Derived.Lib.SmallJoins
/- The statements of layer 11: their example. -/
namespace Go.Proofs.Ytheohcebiimdoaa
open Go.RowKit
set_option linter.unusedVariables false
set_option maxRecDepth 100000

theorem int_cell {H : Type} {enc : TypeId × Value → H} {W : World} {held : Bool} {t : TypeId} {k : IntKind} {fuel : Nat} {v : Value} {y : DataW H × List MemPlace} (ht : Try.prog.underlying t = some (.int k))
    (h : DataW.trod enc Try.prog W 0 (fun _ => true) held fuel t [v] = some y) : ∃ z, v = .int k z ∧ (Lit.int k z).wf = true := by
  obtain ⟨z, h1, _, h3⟩ := DataW.trod_int ht h
  injection h1 with h1
  exact ⟨z, h1, h3⟩
theorem rds3 {w : World} {g B n1 n2 n3 c1 c2 c3 : Nat} {A1 A2 A3 : Option Addr} {us vs xs : List UInt8} (h0 : w.cell? ⟨g, 0, none⟩ = some (.slice A1 n1 c1)) (h1 : w.cell? ⟨g, 1, none⟩ = some (.slice A2 n2 c2)) (h2 : w.cell? ⟨g, 2, none⟩ = some (.slice A3 n3 c3)) (r1 : Rd w B A1 n1 us) (r2 : Rd w B A2 n2 vs) (r3 : Rd w B A3 n3 xs) (hg : g < B) : Rds w B (some ⟨g, 0, none⟩) 3 [us, vs, xs] := by
  refine ⟨rfl, fun _ => ⟨g, 0, rfl, hg, fun i ws hi => ?_⟩⟩
  match i, hi with
  | 0, hi => simp at hi; subst hi; refine ⟨A1, c1, ?_, ?_⟩ <;> rw [r1.1]; simpa using h0; exact r1
  | 1, hi => simp at hi; subst hi; refine ⟨A2, c2, ?_, ?_⟩ <;> rw [r2.1]; simpa using h1; exact r2
  | 2, hi => simp at hi; subst hi; refine ⟨A3, c3, ?_, ?_⟩ <;> rw [r3.1]; simpa using h2; exact r3
/-- Three rows of two bytes, made by a literal. -/
theorem lit_three (w : World) (a b c d e f : UInt8) : ∀ W, W = (((w.alloc (.cells (bvs [a, b]).toArray 5)).alloc (.cells (bvs [c, d]).toArray 5)).alloc (.cells (bvs [e, f]).toArray 5)).alloc (.cells #[.slice (some ⟨w.heap.size, 0, none⟩) 2 2, .slice (some ⟨w.heap.size + 1, 0, none⟩) 2 2, .slice (some ⟨w.heap.size + 2, 0, none⟩) 2 2] 25) →
    Rds W W.heap.size (some ⟨w.heap.size + 3, 0, none⟩) 3 [[a, b], [c, d], [e, f]] ∧ Caps W W.heap.size (some ⟨w.heap.size + 3, 0, none⟩) 3 ∧ Below w.heap.size w W := by
  rintro W rfl
  have h1 := Blk.new w 5 (bvs [a, b]).toArray
  have h2 := Blk.new (w.alloc (.cells (bvs [a, b]).toArray 5)) 5 (bvs [c, d]).toArray
  have h3 := Blk.new ((w.alloc (.cells (bvs [a, b]).toArray 5)).alloc (.cells (bvs [c, d]).toArray 5)) 5 (bvs [e, f]).toArray
  have h4 := Blk.new (((w.alloc (.cells (bvs [a, b]).toArray 5)).alloc (.cells (bvs [c, d]).toArray 5)).alloc (.cells (bvs [e, f]).toArray 5)) 25 #[.slice (some ⟨w.heap.size, 0, none⟩) 2 2, .slice (some ⟨w.heap.size + 1, 0, none⟩) 2 2, .slice (some ⟨w.heap.size + 2, 0, none⟩) 2 2]
  simp only [World.size_alloc] at h2 h3 h4
  replace h1 := ((h1.alloc (.cells (bvs [c, d]).toArray 5)).alloc (.cells (bvs [e, f]).toArray 5)).alloc (.cells #[.slice (some ⟨w.heap.size, 0, none⟩) 2 2, .slice (some ⟨w.heap.size + 1, 0, none⟩) 2 2, .slice (some ⟨w.heap.size + 2, 0, none⟩) 2 2] 25)
  replace h2 := (h2.alloc (.cells (bvs [e, f]).toArray 5)).alloc (.cells #[.slice (some ⟨w.heap.size, 0, none⟩) 2 2, .slice (some ⟨w.heap.size + 1, 0, none⟩) 2 2, .slice (some ⟨w.heap.size + 2, 0, none⟩) 2 2] 25)
  replace h3 := h3.alloc (.cells #[.slice (some ⟨w.heap.size, 0, none⟩) 2 2, .slice (some ⟨w.heap.size + 1, 0, none⟩) 2 2, .slice (some ⟨w.heap.size + 2, 0, none⟩) 2 2] 25)
  refine ⟨rds3 (h4.cell 0) (h4.cell 1) (h4.cell 2) ((Rd.of_blk h1).more h1.lt) ((Rd.of_blk h2).more h2.lt) ((Rd.of_blk h3).more h3.lt) h4.lt, fun _ => ⟨_, 0, rfl, h4.lt, fun j hj => ?_⟩, by go_grown⟩
  match j, hj with
  | 0, _ => exact ⟨_, _, _, h4.cell 0, Nat.le_refl _, by omega⟩
  | 1, _ => exact ⟨_, _, _, h4.cell 1, Nat.le_refl _, by omega⟩
  | 2, _ => exact ⟨_, _, _, h4.cell 2, Nat.le_refl _, by omega⟩
theorem needs_52 : needsN 5 2 = 3 := by decide
theorem bounds_52 : boundsC 5 2 = 0 := by decide
end Go.Proofs.Ytheohcebiimdoaa
