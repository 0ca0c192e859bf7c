import Derived.Test.YtejnkohgecclbaaVecC
/- Proved: for every input VecTells returns true and leaves what it is handed as it was. No condition. -/
namespace Go.Proofs.Ytejnkohgecclbaa
open Go.ChangeShapes Go.WideShapes Go.ChangeAt Go.RowKit
open Go.ChangeMaps (open_string shut_string)
set_option linter.unusedVariables false
set_option maxRecDepth 100000

theorem rd1 {w : World} {g : Nat} {a : UInt8} (h0 : w.cell? ⟨g, 0, none⟩ = some (.int .u8 (bv a))) : Rd w (g + 1) (some ⟨g, 0, none⟩) 1 [a] := by
  refine ⟨rfl, fun _ => ⟨g, 0, rfl, by omega, fun i u hi => ?_⟩⟩
  match i, hi with
  | 0, hi => simp at hi; subst hi; simpa using h0
/-- A row of two slices that were just built. -/
theorem vof_new {w : World} {g : Nat} (hg : w.heap.size = g) (a b c d : UInt8) :
    Calls Try.prog 23 #[.slice (some ⟨g, 0, none⟩) 3 3, .slice (some ⟨g + 1, 0, none⟩) 1 1] ((w.alloc (.cells #[.int .u8 (bv a), .int .u8 (bv b), .int .u8 (bv c)] 5)).alloc (.cells #[.int .u8 (bv d)] 5)) (RowEnds ([a, b, c], [d]) w) := by
  subst hg
  obtain ⟨hb, h1, h2⟩ := two_alloc (w := w) (T := 5) (T2 := 5) (cs := #[.int .u8 (bv a), .int .u8 (bv b), .int .u8 (bv c)]) (cs2 := #[.int .u8 (bv d)])
  have r1 : Rd ((w.alloc (.cells #[.int .u8 (bv a), .int .u8 (bv b), .int .u8 (bv c)] 5)).alloc (.cells #[.int .u8 (bv d)] 5)) (w.heap.size + 1) (some ⟨w.heap.size, 0, none⟩) 3 [a, b, c] := rd3 (by rw [h1.cell]; rfl) (by rw [h1.cell]; rfl) (by rw [h1.cell]; rfl)
  have r2 : Rd ((w.alloc (.cells #[.int .u8 (bv a), .int .u8 (bv b), .int .u8 (bv c)] 5)).alloc (.cells #[.int .u8 (bv d)] 5)) (w.heap.size + 1 + 1) (some ⟨w.heap.size + 1, 0, none⟩) 1 [d] := rd1 (by rw [h2.cell]; rfl)
  exact (vof_any (c := 3) (c2 := 1) (r1.more (by simp)) (r2.more (by simp)) (by omega) (by omega)).mono fun e w' ⟨x, he, hx, hb'⟩ => ⟨x, he, hx, hb.trans (hb'.mono (by simp; omega))⟩
theorem awake3 (w : World) : Calls Try.prog 6 #[] w fun e w' => e = .returned (.bool true) ∧ Below w.heap.size w w' := by
  have k1 : normR ([0, 2, 4], [6]) = ([0, 1, 2], [3]) := by decide +kernel
  have k2 : sameR ([0, 1, 2], [3]) ([0, 1, 2], [3]) = true := by decide +kernel
  have C1 := vof_new (w := w) rfl 0 2 4 6
  have C2 := fun w => vof_new (w := w) rfl 0 1 2 3
  go_enter Try.func6, Try.ntmps6
  go_wp2_with fail
  refine C1.mono ?_
  rintro e w1 ⟨x, rfl, ⟨A1, n1, c1, A2, n2, c2, rfl, r1, r2, l1, l2⟩, b1⟩
  go_wp2_with fail
  refine (norm_any (r := ([0, 2, 4], [6])) r1 r2 l1 l2).mono ?_
  rintro e w2 ⟨x, rfl, ⟨A3, n3, c3, A4, n4, c4, rfl, r3, r4, l3, l4⟩, b2⟩
  rw [k1] at r3 r4
  have b12 := bstep b1 b2
  clear C1 b1 b2 r1 r2 k1
  go_wp2_with fail
  refine (C2 _).mono ?_
  rintro e w3 ⟨x, rfl, ⟨A5, n5, c5, A6, n6, c6, rfl, r5, r6, l5, l6⟩, b3⟩
  replace r3 := r3.step b3
  replace r4 := r4.step b3
  replace b12 := bstep b12 b3
  clear b3
  go_wp2_with fail
  refine (vsame_any (r := ([0, 1, 2], [3])) (s := ([0, 1, 2], [3])) r3 r4 r5 r6).mono ?_
  rw [k2]
  rintro e w4 ⟨rfl, b4⟩
  go_wp2_with fail
  go_ret
  exact ⟨rfl, bstep b12 b4⟩

/-! ### VecTells -/
/-! ### The frame of 'VecTells' -/
end Go.Proofs.Ytejnkohgecclbaa
