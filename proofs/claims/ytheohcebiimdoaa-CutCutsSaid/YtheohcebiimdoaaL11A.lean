import Derived.Test.YtheohcebiimdoaaCutB
import Derived.Test.YtheohcebiimdoaaRef11
import Derived.Lib.SmallJoins
/- The statements of layer 11: their example. -/
namespace Go.Proofs.Ytheohcebiimdoaa
open Go.RowKit
set_option linter.unusedVariables false
set_option maxRecDepth 100000

theorem int_cell {H : Type} {enc : TypeId × Value → H} {W : World} {held : Bool} {t : TypeId} {k : IntKind} {fuel : Nat} {v : Value} {y : DataW H × List MemPlace} (ht : Try.prog.underlying t = some (.int k))
    (h : DataW.trod enc Try.prog W 0 (fun _ => true) held fuel t [v] = some y) : ∃ z, v = .int k z ∧ (Lit.int k z).wf = true := by
  obtain ⟨z, h1, _, h3⟩ := DataW.trod_int ht h
  injection h1 with h1
  exact ⟨z, h1, h3⟩
theorem rds3 {w : World} {g B n1 n2 n3 c1 c2 c3 : Nat} {A1 A2 A3 : Option Addr} {us vs xs : List UInt8} (h0 : w.cell? ⟨g, 0, none⟩ = some (.slice A1 n1 c1)) (h1 : w.cell? ⟨g, 1, none⟩ = some (.slice A2 n2 c2)) (h2 : w.cell? ⟨g, 2, none⟩ = some (.slice A3 n3 c3)) (r1 : Rd w B A1 n1 us) (r2 : Rd w B A2 n2 vs) (r3 : Rd w B A3 n3 xs) (hg : g < B) : Rds w B (some ⟨g, 0, none⟩) 3 [us, vs, xs] := by
  refine ⟨rfl, fun _ => ⟨g, 0, rfl, hg, fun i ws hi => ?_⟩⟩
  match i, hi with
  | 0, hi => simp at hi; subst hi; refine ⟨A1, c1, ?_, ?_⟩ <;> rw [r1.1]; simpa using h0; exact r1
  | 1, hi => simp at hi; subst hi; refine ⟨A2, c2, ?_, ?_⟩ <;> rw [r2.1]; simpa using h1; exact r2
  | 2, hi => simp at hi; subst hi; refine ⟨A3, c3, ?_, ?_⟩ <;> rw [r3.1]; simpa using h2; exact r3
/-- Three rows of two bytes, made by a literal. -/
theorem lit_three (w : World) (a b c d e f : UInt8) : ∀ W, W = (((w.alloc (.cells (bvs [a, b]).toArray 5)).alloc (.cells (bvs [c, d]).toArray 5)).alloc (.cells (bvs [e, f]).toArray 5)).alloc (.cells #[.slice (some ⟨w.heap.size, 0, none⟩) 2 2, .slice (some ⟨w.heap.size + 1, 0, none⟩) 2 2, .slice (some ⟨w.heap.size + 2, 0, none⟩) 2 2] 25) →
    Rds W W.heap.size (some ⟨w.heap.size + 3, 0, none⟩) 3 [[a, b], [c, d], [e, f]] ∧ Caps W W.heap.size (some ⟨w.heap.size + 3, 0, none⟩) 3 ∧ Below w.heap.size w W := by
  rintro W rfl
  have h1 := Blk.new w 5 (bvs [a, b]).toArray
  have h2 := Blk.new (w.alloc (.cells (bvs [a, b]).toArray 5)) 5 (bvs [c, d]).toArray
  have h3 := Blk.new ((w.alloc (.cells (bvs [a, b]).toArray 5)).alloc (.cells (bvs [c, d]).toArray 5)) 5 (bvs [e, f]).toArray
  have h4 := Blk.new (((w.alloc (.cells (bvs [a, b]).toArray 5)).alloc (.cells (bvs [c, d]).toArray 5)).alloc (.cells (bvs [e, f]).toArray 5)) 25 #[.slice (some ⟨w.heap.size, 0, none⟩) 2 2, .slice (some ⟨w.heap.size + 1, 0, none⟩) 2 2, .slice (some ⟨w.heap.size + 2, 0, none⟩) 2 2]
  simp only [World.size_alloc] at h2 h3 h4
  replace h1 := ((h1.alloc (.cells (bvs [c, d]).toArray 5)).alloc (.cells (bvs [e, f]).toArray 5)).alloc (.cells #[.slice (some ⟨w.heap.size, 0, none⟩) 2 2, .slice (some ⟨w.heap.size + 1, 0, none⟩) 2 2, .slice (some ⟨w.heap.size + 2, 0, none⟩) 2 2] 25)
  replace h2 := (h2.alloc (.cells (bvs [e, f]).toArray 5)).alloc (.cells #[.slice (some ⟨w.heap.size, 0, none⟩) 2 2, .slice (some ⟨w.heap.size + 1, 0, none⟩) 2 2, .slice (some ⟨w.heap.size + 2, 0, none⟩) 2 2] 25)
  replace h3 := h3.alloc (.cells #[.slice (some ⟨w.heap.size, 0, none⟩) 2 2, .slice (some ⟨w.heap.size + 1, 0, none⟩) 2 2, .slice (some ⟨w.heap.size + 2, 0, none⟩) 2 2] 25)
  refine ⟨rds3 (h4.cell 0) (h4.cell 1) (h4.cell 2) ((Rd.of_blk h1).more h1.lt) ((Rd.of_blk h2).more h2.lt) ((Rd.of_blk h3).more h3.lt) h4.lt, fun _ => ⟨_, 0, rfl, h4.lt, fun j hj => ?_⟩, by go_grown⟩
  match j, hj with
  | 0, _ => exact ⟨_, _, _, h4.cell 0, Nat.le_refl _, by omega⟩
  | 1, _ => exact ⟨_, _, _, h4.cell 1, Nat.le_refl _, by omega⟩
  | 2, _ => exact ⟨_, _, _, h4.cell 2, Nat.le_refl _, by omega⟩
theorem needs_52 : needsN 5 2 = 3 := by decide
theorem bounds_52 : boundsC 5 2 = 0 := by decide
theorem syms_52 : symsL 2 3 [1, 2, 3, 4, 5] = [[1, 2], [3, 4], [5, 0]] := by decide
theorem short_52 : Short [[1, 2], [3, 4], [5, 0]] := by intro r hr; simp at hr; rcases hr with rfl | rfl | rfl <;> simp
theorem same_self (a : List (List UInt8)) : sameRows a a = true := by simp [sameRows]
theorem ccut_52 {w : World} {A : Option Addr} (h : Rd w w.heap.size A 5 [1, 2, 3, 4, 5]) : Calls Try.prog 8 #[.agg #[.int .i64 5, .int .i64 2, .int .i64 3, .int .u32 0], .slice A 5 5] w (SymsEnds 2 3 [1, 2, 3, 4, 5] w) :=
  ccut_ok (n := 5) (c := 5) (S := 2) (K := 3) (d := 0) h (Nat.le_refl _) (by omega) (by decide)
theorem lit_obj (w : World) (us : List UInt8) (cs : Array Value) (T : TypeId) : Rd ((w.alloc (.cells cs T)).alloc (.cells (bvs us).toArray 5)) ((w.alloc (.cells cs T)).alloc (.cells (bvs us).toArray 5)).heap.size (some ⟨w.heap.size + 1, 0, none⟩) us.length us ∧
    Below w.heap.size w ((w.alloc (.cells cs T)).alloc (.cells (bvs us).toArray 5)) := by
  have h := Blk.new (w.alloc (.cells cs T)) 5 (bvs us).toArray
  rw [World.size_alloc] at h
  exact ⟨(Rd.of_blk h).more h.lt, by go_grown⟩
set_option maxHeartbeats 600000 in
theorem awake11 (w : World) : Calls Try.prog 7 #[] w (GridEnds (.bool true) w) := by
  have C := pof_ok (l := 5) (s := 2) (d := 0) (w := w) (by omega) bounds_52
  rw [needs_52] at C
  have HL := Lib.hid lit_three
  unfold pv at C
  go_enter Try.func7, Try.ntmps7
  go_wp2_with fail
  with_reducible refine C.mono ?_
  rintro e w1 ⟨rfl, b1⟩
  clear C
  go_wp2_with fail
  obtain ⟨hr, b2⟩ := lit_obj w1 [1, 2, 3, 4, 5] #[.int .i64 5, .int .i64 2, .int .i64 3, .int .u32 0] 24
  have hb2 := bstep b1 b2
  refine (ccut_52 hr).mono ?_
  rintro e w2 ⟨g, rfl, hF, hY, _, b3⟩
  have hb3 := bstep hb2 b3
  clear hr b3
  go_wp2_with fail
  obtain ⟨hR, hcp, b4⟩ := HL.out w2 1 2 3 4 5 0 _ rfl
  have hR1 := (hF.rds (symsL_len _ _ _)).step b4
  rw [syms_52] at hR1
  refine (refsame7_any hR1 hR (Nat.le_refl _) (Nat.le_refl _) (by omega) short_52).mono ?_
  rintro e w3 ⟨rfl, b5⟩
  rw [same_self]
  go_wp2_with fail
  go_ret
  exact ⟨rfl, bstep (bstep hb3 b4) b5⟩
end Go.Proofs.Ytheohcebiimdoaa
