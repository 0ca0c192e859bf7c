import Derived.Test.YtilelmejpbnbnaaGridG
/- The statements of layer 7: their example. -/
namespace Go.Proofs.Ytilelmejpbnbnaa
open Go.RowKit
set_option linter.unusedVariables false
set_option maxRecDepth 100000

theorem ex_v (a b : UInt8) (i : Nat) : (pt0 [a, b]).v i = match i with | 0 => a | 1 => b | _ => 0 := by
  match i with
  | 0 => rfl
  | 1 => rfl
  | i + 2 => rfl
theorem ex_less : Pt.less (pt0 [2, 4]) 2 (pt0 [1, 2]) = Pt.zero := by
  refine Pt.eqI (fun i => ?_) (fun i => ?_)
  · show (pt0 [2, 4]).v i ^^^ gm 2 ((pt0 [1, 2]).v i) = 0
    rw [ex_v, ex_v]
    match i with
    | 0 => decide
    | 1 => decide
    | i + 2 => exact (congrArg _ (gm_zero_right 2)).trans (UInt8.xor_zero)
  · show (pt0 [2, 4]).d i ^^^ gm 2 ((pt0 [1, 2]).d i) = 0
    rw [pt0_d, pt0_d]
    exact (congrArg _ (gm_zero_right 2)).trans (UInt8.xor_zero)
theorem ex_rest (i : Nat) : (Pt.less (pt0 [2, 5]) 2 (pt0 [1, 2])).v i = if i = 1 then 1 else 0 := by
  show (pt0 [2, 5]).v i ^^^ gm 2 ((pt0 [1, 2]).v i) = _
  rw [ex_v, ex_v]
  match i with
  | 0 => decide
  | 1 => decide
  | i + 2 => 
    rw [if_neg (by omega)]
    exact (congrArg _ (gm_zero_right 2)).trans (UInt8.xor_zero)
theorem ex_one : Ech [(0, pt0 [1, 2])] := Ech.nil.cons (by simp [leads]) rfl fun j hj => by omega
theorem rk_one : Rk ([[1, 2], [2, 4]].map pt0) 1 := by
  refine ⟨[(0, pt0 [1, 2])], ex_one, rfl, fun m => ⟨Span.mono fun b hb => ?_, Span.mono fun b hb => ?_⟩⟩
  · simp [pts] at hb; subst hb; exact Span.mem (by simp)
  · simp at hb
    rcases hb with rfl | rfl
    · exact Span.mem (by simp [pts])
    · exact ⟨2, ex_less⟩
theorem rk_two : Rk ([[1, 2], [2, 5]].map pt0) 2 := by
  refine ⟨[(1, Pt.less (pt0 [2, 5]) 2 (pt0 [1, 2])), (0, pt0 [1, 2])], ex_one.cons (by simp [leads]) (by rw [ex_rest]; rfl) (fun j hj => by rw [ex_rest, if_neg (by omega)]), rfl, fun m => ⟨Span.mono fun b hb => ?_, Span.mono fun b hb => ?_⟩⟩
  · simp [pts] at hb
    rcases hb with rfl | rfl
    · exact Span.less 2 (Span.mem (by simp)) (Span.mem (by simp))
    · exact Span.mem (by simp)
  · simp at hb
    rcases hb with rfl | rfl
    · exact Span.mem (by simp [pts])
    · have h1 : Span (pts [(1, Pt.less (pt0 [2, 5]) 2 (pt0 [1, 2])), (0, pt0 [1, 2])]) (Pt.less (pt0 [2, 5]) 2 (pt0 [1, 2])) := Span.mem (by simp [pts])
      have h2 : Span (pts [(1, Pt.less (pt0 [2, 5]) 2 (pt0 [1, 2])), (0, pt0 [1, 2])]) (pt0 [1, 2]) := Span.mem (by simp [pts])
      have h3 := Span.less 2 h1 h2
      rwa [less_back2] at h3
theorem gof_ex (a b : UInt8) : gofR 2 [[1, 2], [a, b]] = (gv 2 [[1, 2], [a, b]], 0) := by simp [gofR, fitB, lenB]
theorem ok_ex (a b : UInt8) : GridOk 2 [[1, 2], [a, b]] := ⟨by simp [lenB], by omega, by simp, by simp⟩
/-- Two rows of two bytes, made by a literal. -/
theorem lit_rows (w : World) (a b c d : UInt8) : Rds (((w.alloc (.cells #[.int .u8 (bv a), .int .u8 (bv b)] 5)).alloc (.cells #[.int .u8 (bv c), .int .u8 (bv d)] 5)).alloc (.cells #[.slice (some ⟨w.heap.size, 0, none⟩) 2 2, .slice (some ⟨w.heap.size + 1, 0, none⟩) 2 2] 52)) (w.heap.size + 3) (some ⟨w.heap.size + 2, 0, none⟩) 2 [[a, b], [c, d]] := by
  obtain ⟨hb, h1, h2, h3, hz⟩ := three_alloc (w := w) (T := 5) (T2 := 5) (T3 := 52) (cs := #[.int .u8 (bv a), .int .u8 (bv b)]) (cs2 := #[.int .u8 (bv c), .int .u8 (bv d)]) (cs3 := #[.slice (some ⟨w.heap.size, 0, none⟩) 2 2, .slice (some ⟨w.heap.size + 1, 0, none⟩) 2 2])
  obtain ⟨a0, a1, _⟩ := cells2 h1
  obtain ⟨b0, b1, _⟩ := cells2 h2
  obtain ⟨c0, c1, _⟩ := cells2 h3
  exact rds2 c0 c1 ((rd2 a0 a1).more (by omega)) ((rd2 b0 b1).more (by omega)) (by omega)
theorem gv_parts (k : Nat) (rows : List (List UInt8)) : ∃ (H K : Int) (S : ByteArray), gv k rows = .agg #[.int .i64 H, .int .i64 K, .string S] := ⟨_, _, _, rfl⟩
theorem awake7 (w : World) : Calls Try.prog 8 #[] w (GridEnds (.bool true) w) := by
  have HL := Lib.hid fun (w : World) (a b c d : UInt8) => lit_rows w a b c d
  have CR1 := fun W => grank_any (w := W) (ok_ex 2 4)
  have CR2 := fun W => grank_any (w := W) (ok_ex 2 5)
  have hR := HL.out w 1 2 2 4
  have C := gof_any (z := 2) (c := 2) hR (by simp) (Nat.le_refl _) (by omega) (by omega) (by omega)
  rw [gof_ex] at C
  have CO2 := fun W A h1 h2 => gof_any (w := W) (B := W.heap.size) (A := A) (n := 2) (rows := [[1, 2], [2, 5]]) (z := 2) (c := 2) h1 (Nat.le_refl _) (Nat.le_refl _) h2 (by omega) (by omega)
  rw [gof_ex] at CO2
  obtain ⟨H1, K1, S1, e1⟩ := gv_parts 2 [[1, 2], [2, 4]]
  obtain ⟨H2, K2, S2, e2⟩ := gv_parts 2 [[1, 2], [2, 5]]
  simp only [e1, e2] at C CO2 CR1 CR2
  have C' := Lib.hid C
  have CO := Lib.hid CO2
  have CR1' := Lib.hid CR1
  have CR2' := Lib.hid CR2
  have hb := (three_alloc (w := w) (T := 5) (T2 := 5) (T3 := 52) (cs := #[.int .u8 (bv 1), .int .u8 (bv 2)]) (cs2 := #[.int .u8 (bv 2), .int .u8 (bv 4)]) (cs3 := #[.slice (some ⟨w.heap.size, 0, none⟩) 2 2, .slice (some ⟨w.heap.size + 1, 0, none⟩) 2 2])).1
  clear C CO2 CR1 CR2 e1 e2 hR
  go_enter Try.func8, Try.ntmps8
  go_wp2_with fail
  refine C'.out.mono ?_
  rintro e w1 ⟨rfl, b1⟩
  replace hb := bstep hb b1
  clear C' b1
  have hg1 := Blk.new w1 26 #[.int .i64 H1, .int .i64 K1, .string S1]
  replace hb := bstep hb (balloc w1 (.cells #[.int .i64 H1, .int .i64 K1, .string S1] 26))
  have hR := HL.out (w1.alloc (.cells #[.int .i64 H1, .int .i64 K1, .string S1] 26)) 1 2 2 5
  obtain ⟨hb2, z1, z2, z3, z4⟩ := (three_alloc (w := w1.alloc (.cells #[.int .i64 H1, .int .i64 K1, .string S1] 26)) (T := 5) (T2 := 5) (T3 := 52) (cs := #[.int .u8 (bv 1), .int .u8 (bv 2)]) (cs2 := #[.int .u8 (bv 2), .int .u8 (bv 5)]) (cs3 := #[.slice (some ⟨w1.heap.size + 1, 0, none⟩) 2 2, .slice (some ⟨w1.heap.size + 1 + 1, 0, none⟩) 2 2]))
  clear z1 z2 z3 z4
  replace hb := bstep hb hb2
  replace hg1 := hg1.below hb2 hg1.lt
  clear hb2
  simp only [World.size_alloc] at hR
  go_wp2_with fail
  refine (CO.out _ _ (hR.more (by simp)) (by omega)).mono ?_
  rintro e w2 ⟨rfl, b2⟩
  replace hb := bstep hb b2
  replace hg1 := hg1.below b2 hg1.lt
  clear b2 hR HL CO
  have hg2 := Blk.new w2 26 #[.int .i64 H2, .int .i64 K2, .string S2]
  replace hb := bstep hb (balloc w2 (.cells #[.int .i64 H2, .int .i64 K2, .string S2] 26))
  replace hg1 := hg1.alloc (.cells #[.int .i64 H2, .int .i64 K2, .string S2] 26)
  obtain ⟨hc0, hc1, hc2, _, _, _⟩ := cells3 hg1
  go_wp2_with fail
  refine (CR1'.out _).mono ?_
  rintro e w3 ⟨r, rfl, hr, b3⟩
  obtain rfl := hr.unique rk_one
  replace hb := bstep hb b3
  replace hg2 := hg2.below b3 hg2.lt
  clear b3 hr hg1 CR1' hc0 hc1 hc2
  obtain ⟨hc0, hc1, hc2, _, _, _⟩ := cells3 hg2
  go_wp2_with fail
  refine (CR2'.out _).mono ?_
  rintro e w4 ⟨r, rfl, hr, b4⟩
  obtain rfl := hr.unique rk_two
  replace hb := bstep hb b4
  clear b4 hr hg2 CR2' hc0 hc1 hc2
  go_wp2_with fail
  go_ret
  exact ⟨rfl, hb⟩
end Go.Proofs.Ytilelmejpbnbnaa
