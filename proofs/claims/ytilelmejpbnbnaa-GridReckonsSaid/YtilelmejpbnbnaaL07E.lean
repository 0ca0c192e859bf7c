import Derived.Test.YtilelmejpbnbnaaL07D
/- GridReckons: its walk. -/
namespace Go.Proofs.Ytilelmejpbnbnaa
open Go.RowKit
set_option linter.unusedVariables false
set_option maxRecDepth 100000
set_option maxHeartbeats 1000000
set_option linter.unusedSimpArgs false

theorem reckons_few (u1 u2 : UInt8) (A1 A2 : Option Addr) (n1 c1 n2 c2 : Nat) (rows more : List (List UInt8)) (w : World) (h1 : Rds w w.heap.size A1 n1 rows) (h2 : Rds w w.heap.size A2 n2 more) (z1 : n1 ≤ c1 ∧ c1 ≤ maxLen) (z2 : n2 ≤ c2 ∧ c2 ≤ maxLen) (hf1 : few7B rows = false) :
    Calls Try.prog 3 #[.int .u8 (bv u1), .slice A1 n1 c1, .int .u8 (bv u2), .slice A2 n2 c2] w fun e w' => e = .returned (.bool true) ∧ Below w.heap.size w w' := by
  unfold maxLen at z1 z2
  obtain ⟨z3, z4⟩ := z1
  obtain ⟨z5, z6⟩ := z2
  have HF1 := Lib.hid hf1
  clear hf1
  go_enter Try.func3, Try.ntmps3
  go_wp2_with fail
  refine (awake7 _).mono ?_
  rintro e w1 ⟨rfl, hb⟩
  replace h1 := h1.step hb
  replace h2 := h2.step hb
  go_wp2_with fail
  refine (few7_any h1 (by omega)).mono ?_
  rintro e w' ⟨rfl, rfl⟩
  rw [HF1.out]
  go_wp2_with fail
  go_ret
  exact ⟨rfl, hb⟩
theorem reckons_few2 (u1 u2 : UInt8) (A1 A2 : Option Addr) (n1 c1 n2 c2 : Nat) (rows more : List (List UInt8)) (w : World) (h1 : Rds w w.heap.size A1 n1 rows) (h2 : Rds w w.heap.size A2 n2 more) (z1 : n1 ≤ c1 ∧ c1 ≤ maxLen) (z2 : n2 ≤ c2 ∧ c2 ≤ maxLen) (hf1 : few7B rows = true) (hf2 : few7B more = false) :
    Calls Try.prog 3 #[.int .u8 (bv u1), .slice A1 n1 c1, .int .u8 (bv u2), .slice A2 n2 c2] w fun e w' => e = .returned (.bool true) ∧ Below w.heap.size w w' := by
  unfold maxLen at z1 z2
  obtain ⟨z3, z4⟩ := z1
  obtain ⟨z5, z6⟩ := z2
  have HF1 := Lib.hid hf1
  have HF2 := Lib.hid hf2
  clear hf1 hf2
  go_enter Try.func3, Try.ntmps3
  go_wp2_with fail
  refine (awake7 _).mono ?_
  rintro e w1 ⟨rfl, hb⟩
  replace h1 := h1.step hb
  replace h2 := h2.step hb
  go_wp2_with fail
  refine (few7_any h1 (by omega)).mono ?_
  rintro e w' ⟨rfl, rfl⟩
  rw [HF1.out]
  go_wp2_with fail
  refine (few7_any h2 (by omega)).mono ?_
  rintro e w' ⟨rfl, rfl⟩
  rw [HF2.out]
  go_wp2_with fail
  go_ret
  exact ⟨rfl, hb⟩
theorem reckons_ES (u1 u2 : UInt8) (A1 A2 : Option Addr) (n1 c1 n2 c2 : Nat) (rows more : List (List UInt8)) (w : World) (h1 : Rds w w.heap.size A1 n1 rows) (h2 : Rds w w.heap.size A2 n2 more) (z1 : n1 ≤ c1 ∧ c1 ≤ maxLen) (z2 : n2 ≤ c2 ∧ c2 ≤ maxLen) (hf1 : few7B rows = true) (hf2 : few7B more = true) (hM : u1.toNat % 31 ≠ (madeL (u2.toNat % 31) more).length) (hI : u1.toNat % 31 ≠ (madeL (u1.toNat % 31) rows).length) :
    Calls Try.prog 3 #[.int .u8 (bv u1), .slice A1 n1 c1, .int .u8 (bv u2), .slice A2 n2 c2] w fun e w' => e = .returned (.bool true) ∧ Below w.heap.size w w' := by
  unfold maxLen at z1 z2
  obtain ⟨z3, z4⟩ := z1
  obtain ⟨z5, z6⟩ := z2
  have HF1 := Lib.hid hf1
  have HF2 := Lib.hid hf2
  have q1 := few7_len hf1
  have q2 := few7_len hf2
  have q3 : n1 ≤ 30 := by have := h1.1; omega
  have q4 : n2 ≤ 30 := by have := h2.1; omega
  have q5 : u1.toNat % 31 ≤ 30 := by have := Nat.mod_lt u1.toNat (show 31 > 0 by omega); omega
  have q6 : u2.toNat % 31 ≤ 30 := by have := Nat.mod_lt u2.toNat (show 31 > 0 by omega); omega
  have CM1 := fun W (h : Rds W W.heap.size A1 n1 rows) => made_any (u := u1) (c := c1) h (Nat.le_refl _) q3
  have CM2 := fun W (h : Rds W W.heap.size A2 n2 more) => made_any (u := u2) (c := c2) h (Nat.le_refl _) q4
  have OK1 := made_ok q5 q1
  have OK2 := made_ok q6 q2
  have q7 : (madeL (u1.toNat % 31) rows).length ≤ 30 := by rw [made_len]; exact q1
  have q8 : (madeL (u2.toNat % 31) more).length ≤ 30 := by rw [made_len]; exact q2
  unfold MadeEnds at CM1 CM2
  clear hf1 hf2 q1 q2 q3 q4
  generalize madeL (u1.toNat % 31) rows = L1 at *
  generalize u1.toNat % 31 = K1 at *
  generalize madeL (u2.toNat % 31) more = L2 at *
  generalize u2.toNat % 31 = K2 at *
  have CR1 := fun W => grank_any (w := W) OK1
  have CT := fun W => gturned_any (w := W) OK1
  have OKT := turnL_ok OK1
  have CTR := fun W => grows_any (w := W) OKT
  have CTW := fun W => gwidth_any L1.length (turnL K1 L1) W
  have CTH := fun W => gheight_any L1.length (turnL K1 L1) W
  rw [turnL_len] at CTH
  have ST := Lib.hid (short_of_ok OKT)
  have HL1 := Lib.hid OK1.1
  have HOK1 := Lib.hid OK1
  obtain ⟨a1, b1, s1, g1⟩ := gv_parts K1 L1
  obtain ⟨a2, b2, s2, g2⟩ := gv_parts K2 L2
  obtain ⟨a3, b3, s3, g3⟩ := gv_parts L1.length (turnL K1 L1)
  have CMU := fun W => gmul_size (k := K1) (k2 := K2) (rows := L1) (rows2 := L2) (w := W) hM
  have t1 : ((K1 : Int) != (L2.length : Int)) = true := by rw [bne_iff_ne]; omega
  have CI := fun W => ginv_size (k := K1) (rows := L1) (w := W) hI
  have t2 : ((K1 : Int) != (L1.length : Int)) = true := by rw [bne_iff_ne]; omega
  simp only [g1, g2, g3, gv_zero] at CM1
  simp only [g1, g2, g3, gv_zero] at CM2
  simp only [g1, g2, g3, gv_zero] at CR1
  simp only [g1, g2, g3, gv_zero] at CT
  simp only [g1, g2, g3, gv_zero] at CTR
  simp only [g1, g2, g3, gv_zero] at CTW
  simp only [g1, g2, g3, gv_zero] at CTH
  simp only [g1, g2, g3, gv_zero] at CMU
  simp only [g1, g2, g3, gv_zero] at CI
  have CM1' := Lib.hid CM1
  have CM2' := Lib.hid CM2
  have CR1' := Lib.hid CR1
  have CT' := Lib.hid CT
  have CTR' := Lib.hid CTR
  have CTW' := Lib.hid CTW
  have CTH' := Lib.hid CTH
  have CMU' := Lib.hid CMU
  have CI' := Lib.hid CI
  clear CM1 CM2 CR1 CT CTR CTW CTH CMU CI hM hI OK1 OK2 OKT
  go_enter Try.func3, Try.ntmps3
  go_wp2_with fail
  refine (awake7 _).mono ?_
  rintro e w1 ⟨rfl, hb⟩
  replace h1 := h1.step hb
  replace h2 := h2.step hb
  go_wp2_with fail
  refine (few7_any h1 (by omega)).mono ?_
  rintro e w' ⟨rfl, rfl⟩
  rw [HF1.out]
  go_wp2_with fail
  refine (few7_any h2 (by omega)).mono ?_
  rintro e w' ⟨rfl, rfl⟩
  rw [HF2.out]
  go_wp2_with fail
  refine (CM1'.out _ h1).mono ?_
  rintro e wn ⟨Al, ml, cl, rfl, lr, y1, y2, b⟩
  replace hb := bstep hb b
  replace h2 := h2.step b
  clear b
  obtain rfl : L1.length = ml := lr.1
  clear h1
  have b := balloc wn (.cells #[.int .i64 a1, .int .i64 b1, .string s1] 26)
  have g9 := Blk.new wn 26 #[.int .i64 a1, .int .i64 b1, .string s1]
  replace hb := bstep hb b
  replace h2 := h2.step b
  replace lr := lr.step b
  clear b
  obtain ⟨c0, c1, c2, c3, c4, c5⟩ := cells3 g9
  go_wp2_with fail
  clear c0 c1 c2 c3 c4 c5
  generalize hW : wn.alloc (.cells #[.int .i64 a1, .int .i64 b1, .string s1] 26) = Wg9 at *
  generalize wn.heap.size = xg9 at *
  clear hW
  refine (CM2'.out _ h2).mono ?_
  rintro e wn ⟨Ak, mk, ck, rfl, kr, y3, y4, b⟩
  clear h2
  replace hb := bstep hb b
  replace lr := lr.step b
  replace g9 := g9.below b g9.lt
  clear b
  obtain rfl : L2.length = mk := kr.1
  have b := balloc wn (.cells #[.int .i64 a2, .int .i64 b2, .string s2] 26)
  have g12 := Blk.new wn 26 #[.int .i64 a2, .int .i64 b2, .string s2]
  replace hb := bstep hb b
  replace lr := lr.step b
  replace g9 := g9.below b g9.lt
  replace kr := kr.step b
  clear b
  obtain ⟨c0, c1, c2, c3, c4, c5⟩ := cells3 g9
  obtain ⟨d0, d1, d2, d3, d4, d5⟩ := cells3 g12
  go_wp2_with fail
  clear c0 c1 c2 c3 c4 c5 d0 d1 d2 d3 d4 d5
  generalize hW : wn.alloc (.cells #[.int .i64 a2, .int .i64 b2, .string s2] 26) = Wg12 at *
  generalize wn.heap.size = xg12 at *
  clear hW
  refine (refrank_any (n := K1) lr (Nat.le_refl _) (by omega) (by omega) HL1.out).mono ?_
  rintro e wn ⟨r, rfl, hr, b⟩
  replace hb := bstep hb b
  replace lr := lr.step b
  replace g9 := g9.below b g9.lt
  replace kr := kr.step b
  replace g12 := g12.below b g12.lt
  clear b
  have HR := Lib.hid hr
  clear hr
  obtain ⟨c0, c1, c2, c3, c4, c5⟩ := cells3 g9
  obtain ⟨d0, d1, d2, d3, d4, d5⟩ := cells3 g12
  go_wp2_with fail
  clear c0 c1 c2 c3 c4 c5 d0 d1 d2 d3 d4 d5
  refine (CR1'.out _).mono ?_
  rintro e wn ⟨r2, rfl, hr2, b⟩
  replace hb := bstep hb b
  replace lr := lr.step b
  replace g9 := g9.below b g9.lt
  replace kr := kr.step b
  replace g12 := g12.below b g12.lt
  clear b
  obtain rfl : r = r2 := Rk.unique HR.out hr2
  clear hr2
  obtain ⟨c0, c1, c2, c3, c4, c5⟩ := cells3 g9
  obtain ⟨d0, d1, d2, d3, d4, d5⟩ := cells3 g12
  go_wp2_with fail
  clear c0 c1 c2 c3 c4 c5 d0 d1 d2 d3 d4 d5
  refine (CT'.out _).mono ?_
  rintro e wn ⟨rfl, b⟩
  replace hb := bstep hb b
  replace lr := lr.step b
  replace g9 := g9.below b g9.lt
  replace kr := kr.step b
  replace g12 := g12.below b g12.lt
  clear b
  obtain ⟨c0, c1, c2, c3, c4, c5⟩ := cells3 g9
  obtain ⟨d0, d1, d2, d3, d4, d5⟩ := cells3 g12
  go_wp2_with fail
  clear c0 c1 c2 c3 c4 c5 d0 d1 d2 d3 d4 d5
  refine (CTR'.out _).mono ?_
  rintro e wn ⟨A7, n7, c7, rfl, y5, y6, r7, b⟩
  replace hb := bstep hb b
  replace lr := lr.step b
  replace g9 := g9.below b g9.lt
  replace kr := kr.step b
  replace g12 := g12.below b g12.lt
  clear b
  obtain ⟨c0, c1, c2, c3, c4, c5⟩ := cells3 g9
  obtain ⟨d0, d1, d2, d3, d4, d5⟩ := cells3 g12
  go_wp2_with fail
  clear c0 c1 c2 c3 c4 c5 d0 d1 d2 d3 d4 d5
  refine (refturn_any lr (Nat.le_refl _) HL1.out (by omega) (by omega)).mono ?_
  rintro e wn ⟨A8, n8, c8, rfl, r8, b⟩
  replace hb := bstep hb b
  replace lr := lr.step b
  replace g9 := g9.below b g9.lt
  replace kr := kr.step b
  replace g12 := g12.below b g12.lt
  replace r7 := r7.step b
  clear b
  obtain ⟨c0, c1, c2, c3, c4, c5⟩ := cells3 g9
  obtain ⟨d0, d1, d2, d3, d4, d5⟩ := cells3 g12
  go_wp2_with fail
  clear c0 c1 c2 c3 c4 c5 d0 d1 d2 d3 d4 d5
  refine (refsame7_any r7 r8 (Nat.le_refl _) (Nat.le_refl _) (by omega) ST.out).mono ?_
  rintro e wn ⟨rfl, b⟩
  clear r7 r8
  replace hb := bstep hb b
  replace lr := lr.step b
  replace g9 := g9.below b g9.lt
  replace kr := kr.step b
  replace g12 := g12.below b g12.lt
  clear b
  rw [sameRows_self']
  obtain ⟨c0, c1, c2, c3, c4, c5⟩ := cells3 g9
  obtain ⟨d0, d1, d2, d3, d4, d5⟩ := cells3 g12
  go_wp2_with fail
  clear c0 c1 c2 c3 c4 c5 d0 d1 d2 d3 d4 d5
  refine (CT'.out _).mono ?_
  rintro e wn ⟨rfl, b⟩
  replace hb := bstep hb b
  replace lr := lr.step b
  replace g9 := g9.below b g9.lt
  replace kr := kr.step b
  replace g12 := g12.below b g12.lt
  clear b
  obtain ⟨c0, c1, c2, c3, c4, c5⟩ := cells3 g9
  obtain ⟨d0, d1, d2, d3, d4, d5⟩ := cells3 g12
  go_wp2_with fail
  clear c0 c1 c2 c3 c4 c5 d0 d1 d2 d3 d4 d5
  refine (CTW'.out _).mono ?_
  rintro e wn ⟨rfl, b⟩
  replace hb := bstep hb b
  replace lr := lr.step b
  replace g9 := g9.below b g9.lt
  replace kr := kr.step b
  replace g12 := g12.below b g12.lt
  clear b
  obtain ⟨c0, c1, c2, c3, c4, c5⟩ := cells3 g9
  obtain ⟨d0, d1, d2, d3, d4, d5⟩ := cells3 g12
  go_wp2_with fail
  clear c0 c1 c2 c3 c4 c5 d0 d1 d2 d3 d4 d5
  refine (CT'.out _).mono ?_
  rintro e wn ⟨rfl, b⟩
  replace hb := bstep hb b
  replace lr := lr.step b
  replace g9 := g9.below b g9.lt
  replace kr := kr.step b
  replace g12 := g12.below b g12.lt
  clear b
  obtain ⟨c0, c1, c2, c3, c4, c5⟩ := cells3 g9
  obtain ⟨d0, d1, d2, d3, d4, d5⟩ := cells3 g12
  go_wp2_with fail
  clear c0 c1 c2 c3 c4 c5 d0 d1 d2 d3 d4 d5
  refine (CTH'.out _).mono ?_
  rintro e wn ⟨rfl, b⟩
  replace hb := bstep hb b
  replace lr := lr.step b
  replace g9 := g9.below b g9.lt
  replace kr := kr.step b
  replace g12 := g12.below b g12.lt
  clear b
  obtain ⟨c0, c1, c2, c3, c4, c5⟩ := cells3 g9
  obtain ⟨d0, d1, d2, d3, d4, d5⟩ := cells3 g12
  go_wp2_with fail
  clear c0 c1 c2 c3 c4 c5 d0 d1 d2 d3 d4 d5
  refine (CMU'.out _).mono ?_
  rintro e wn ⟨rfl, b⟩
  replace hb := bstep hb b
  replace lr := lr.step b
  replace g9 := g9.below b g9.lt
  replace kr := kr.step b
  replace g12 := g12.below b g12.lt
  clear b
  have b := balloc wn (.cells #[.int .i64 0, .int .i64 0, .string { data := #[] }] 26)
  have g16 := Blk.new wn 26 #[.int .i64 0, .int .i64 0, .string { data := #[] }]
  replace hb := bstep hb b
  replace lr := lr.step b
  replace g9 := g9.below b g9.lt
  replace kr := kr.step b
  replace g12 := g12.below b g12.lt
  clear b
  obtain ⟨c0, c1, c2, c3, c4, c5⟩ := cells3 g9
  obtain ⟨d0, d1, d2, d3, d4, d5⟩ := cells3 g12
  obtain ⟨i0, i1, i2, i3, i4, i5⟩ := cells3 g16
  go_wp2_with fail
  clear c0 c1 c2 c3 c4 c5 d0 d1 d2 d3 d4 d5 i0 i1 i2 i3 i4 i5
  generalize hW : wn.alloc (.cells #[.int .i64 0, .int .i64 0, .string { data := #[] }] 26) = Wg16 at *
  generalize wn.heap.size = xg16 at *
  clear hW
  refine ((show Calls Try.prog 18 #[gv 0 []] _ _ from gheight_any 0 [] _)).mono ?_
  rintro e wn ⟨rfl, b⟩
  replace hb := bstep hb b
  replace lr := lr.step b
  replace g9 := g9.below b g9.lt
  replace kr := kr.step b
  replace g12 := g12.below b g12.lt
  replace g16 := g16.below b g16.lt
  clear b
  obtain ⟨c0, c1, c2, c3, c4, c5⟩ := cells3 g9
  obtain ⟨d0, d1, d2, d3, d4, d5⟩ := cells3 g12
  obtain ⟨i0, i1, i2, i3, i4, i5⟩ := cells3 g16
  go_wp2_with fail
  clear c0 c1 c2 c3 c4 c5 d0 d1 d2 d3 d4 d5 i0 i1 i2 i3 i4 i5
  refine (CI'.out _).mono ?_
  rintro e wn ⟨rfl, b⟩
  replace hb := bstep hb b
  replace lr := lr.step b
  replace g9 := g9.below b g9.lt
  replace kr := kr.step b
  replace g12 := g12.below b g12.lt
  replace g16 := g16.below b g16.lt
  clear b
  have b := balloc wn (.cells #[.int .i64 0, .int .i64 0, .string { data := #[] }] 26)
  have g18 := Blk.new wn 26 #[.int .i64 0, .int .i64 0, .string { data := #[] }]
  replace hb := bstep hb b
  replace lr := lr.step b
  replace g9 := g9.below b g9.lt
  replace kr := kr.step b
  replace g12 := g12.below b g12.lt
  replace g16 := g16.below b g16.lt
  clear b
  obtain ⟨c0, c1, c2, c3, c4, c5⟩ := cells3 g9
  obtain ⟨d0, d1, d2, d3, d4, d5⟩ := cells3 g12
  obtain ⟨i0, i1, i2, i3, i4, i5⟩ := cells3 g16
  obtain ⟨j0, j1, j2, j3, j4, j5⟩ := cells3 g18
  go_wp2_with fail
  clear c0 c1 c2 c3 c4 c5 d0 d1 d2 d3 d4 d5 i0 i1 i2 i3 i4 i5 j0 j1 j2 j3 j4 j5
  generalize hW : wn.alloc (.cells #[.int .i64 0, .int .i64 0, .string { data := #[] }] 26) = Wg18 at *
  generalize wn.heap.size = xg18 at *
  clear hW
  refine ((show Calls Try.prog 18 #[gv 0 []] _ _ from gheight_any 0 [] _)).mono ?_
  rintro e wn ⟨rfl, b⟩
  replace hb := bstep hb b
  replace lr := lr.step b
  replace g9 := g9.below b g9.lt
  replace kr := kr.step b
  replace g12 := g12.below b g12.lt
  replace g16 := g16.below b g16.lt
  replace g18 := g18.below b g18.lt
  clear b
  obtain ⟨c0, c1, c2, c3, c4, c5⟩ := cells3 g9
  obtain ⟨d0, d1, d2, d3, d4, d5⟩ := cells3 g12
  obtain ⟨i0, i1, i2, i3, i4, i5⟩ := cells3 g16
  obtain ⟨j0, j1, j2, j3, j4, j5⟩ := cells3 g18
  go_wp2_with fail
  clear c0 c1 c2 c3 c4 c5 d0 d1 d2 d3 d4 d5 i0 i1 i2 i3 i4 i5 j0 j1 j2 j3 j4 j5
  go_ret
  exact ⟨rfl, hb⟩
theorem reckons_EQ (u1 u2 : UInt8) (A1 A2 : Option Addr) (n1 c1 n2 c2 : Nat) (rows more : List (List UInt8)) (w : World) (h1 : Rds w w.heap.size A1 n1 rows) (h2 : Rds w w.heap.size A2 n2 more) (z1 : n1 ≤ c1 ∧ c1 ≤ maxLen) (z2 : n2 ≤ c2 ∧ c2 ≤ maxLen) (hf1 : few7B rows = true) (hf2 : few7B more = true) (hM : u1.toNat % 31 ≠ (madeL (u2.toNat % 31) more).length) (hI : (madeL (u1.toNat % 31) rows).length = u1.toNat % 31) :
    Calls Try.prog 3 #[.int .u8 (bv u1), .slice A1 n1 c1, .int .u8 (bv u2), .slice A2 n2 c2] w fun e w' => e = .returned (.bool true) ∧ Below w.heap.size w w' := by
  unfold maxLen at z1 z2
  obtain ⟨z3, z4⟩ := z1
  obtain ⟨z5, z6⟩ := z2
  have HF1 := Lib.hid hf1
  have HF2 := Lib.hid hf2
  have q1 := few7_len hf1
  have q2 := few7_len hf2
  have q3 : n1 ≤ 30 := by have := h1.1; omega
  have q4 : n2 ≤ 30 := by have := h2.1; omega
  have q5 : u1.toNat % 31 ≤ 30 := by have := Nat.mod_lt u1.toNat (show 31 > 0 by omega); omega
  have q6 : u2.toNat % 31 ≤ 30 := by have := Nat.mod_lt u2.toNat (show 31 > 0 by omega); omega
  have CM1 := fun W (h : Rds W W.heap.size A1 n1 rows) => made_any (u := u1) (c := c1) h (Nat.le_refl _) q3
  have CM2 := fun W (h : Rds W W.heap.size A2 n2 more) => made_any (u := u2) (c := c2) h (Nat.le_refl _) q4
  have OK1 := made_ok q5 q1
  have OK2 := made_ok q6 q2
  have q7 : (madeL (u1.toNat % 31) rows).length ≤ 30 := by rw [made_len]; exact q1
  have q8 : (madeL (u2.toNat % 31) more).length ≤ 30 := by rw [made_len]; exact q2
  unfold MadeEnds at CM1 CM2
  clear hf1 hf2 q1 q2 q3 q4
  generalize madeL (u1.toNat % 31) rows = L1 at *
  generalize u1.toNat % 31 = K1 at *
  generalize madeL (u2.toNat % 31) more = L2 at *
  generalize u2.toNat % 31 = K2 at *
  have CR1 := fun W => grank_any (w := W) OK1
  have CT := fun W => gturned_any (w := W) OK1
  have OKT := turnL_ok OK1
  have CTR := fun W => grows_any (w := W) OKT
  have CTW := fun W => gwidth_any L1.length (turnL K1 L1) W
  have CTH := fun W => gheight_any L1.length (turnL K1 L1) W
  rw [turnL_len] at CTH
  have ST := Lib.hid (short_of_ok OKT)
  have HL1 := Lib.hid OK1.1
  have HOK1 := Lib.hid OK1
  obtain ⟨a1, b1, s1, g1⟩ := gv_parts K1 L1
  obtain ⟨a2, b2, s2, g2⟩ := gv_parts K2 L2
  obtain ⟨a3, b3, s3, g3⟩ := gv_parts L1.length (turnL K1 L1)
  have CMU := fun W => gmul_size (k := K1) (k2 := K2) (rows := L1) (rows2 := L2) (w := W) hM
  have t1 : ((K1 : Int) != (L2.length : Int)) = true := by rw [bne_iff_ne]; omega
  have CI := fun W => ginv_any (w := W) OK1 hI
  unfold InvEnds at CI
  have HI := Lib.hid hI
  have t2 : ((K1 : Int) != (L1.length : Int)) = false := by rw [bne_eq_false_iff_eq]; omega
  have CU := fun W => gunitn_ok K1 W (by omega)
  simp only [g1, g2, g3, gv_zero] at CM1
  simp only [g1, g2, g3, gv_zero] at CM2
  simp only [g1, g2, g3, gv_zero] at CR1
  simp only [g1, g2, g3, gv_zero] at CT
  simp only [g1, g2, g3, gv_zero] at CTR
  simp only [g1, g2, g3, gv_zero] at CTW
  simp only [g1, g2, g3, gv_zero] at CTH
  simp only [g1, g2, g3, gv_zero] at CMU
  simp only [g1, g2, g3, gv_zero] at CI
  have CM1' := Lib.hid CM1
  have CM2' := Lib.hid CM2
  have CR1' := Lib.hid CR1
  have CT' := Lib.hid CT
  have CTR' := Lib.hid CTR
  have CTW' := Lib.hid CTW
  have CTH' := Lib.hid CTH
  have CMU' := Lib.hid CMU
  have CI' := Lib.hid CI
  have CU' := Lib.hid CU
  clear CU
  clear CM1 CM2 CR1 CT CTR CTW CTH CMU CI hM hI OK1 OK2 OKT
  go_enter Try.func3, Try.ntmps3
  go_wp2_with fail
  refine (awake7 _).mono ?_
  rintro e w1 ⟨rfl, hb⟩
  replace h1 := h1.step hb
  replace h2 := h2.step hb
  go_wp2_with fail
  refine (few7_any h1 (by omega)).mono ?_
  rintro e w' ⟨rfl, rfl⟩
  rw [HF1.out]
  go_wp2_with fail
  refine (few7_any h2 (by omega)).mono ?_
  rintro e w' ⟨rfl, rfl⟩
  rw [HF2.out]
  go_wp2_with fail
  refine (CM1'.out _ h1).mono ?_
  rintro e wn ⟨Al, ml, cl, rfl, lr, y1, y2, b⟩
  replace hb := bstep hb b
  replace h2 := h2.step b
  clear b
  obtain rfl : L1.length = ml := lr.1
  clear h1
  have b := balloc wn (.cells #[.int .i64 a1, .int .i64 b1, .string s1] 26)
  have g9 := Blk.new wn 26 #[.int .i64 a1, .int .i64 b1, .string s1]
  replace hb := bstep hb b
  replace h2 := h2.step b
  replace lr := lr.step b
  clear b
  obtain ⟨c0, c1, c2, c3, c4, c5⟩ := cells3 g9
  go_wp2_with fail
  clear c0 c1 c2 c3 c4 c5
  generalize hW : wn.alloc (.cells #[.int .i64 a1, .int .i64 b1, .string s1] 26) = Wg9 at *
  generalize wn.heap.size = xg9 at *
  clear hW
  refine (CM2'.out _ h2).mono ?_
  rintro e wn ⟨Ak, mk, ck, rfl, kr, y3, y4, b⟩
  clear h2
  replace hb := bstep hb b
  replace lr := lr.step b
  replace g9 := g9.below b g9.lt
  clear b
  obtain rfl : L2.length = mk := kr.1
  have b := balloc wn (.cells #[.int .i64 a2, .int .i64 b2, .string s2] 26)
  have g12 := Blk.new wn 26 #[.int .i64 a2, .int .i64 b2, .string s2]
  replace hb := bstep hb b
  replace lr := lr.step b
  replace g9 := g9.below b g9.lt
  replace kr := kr.step b
  clear b
  obtain ⟨c0, c1, c2, c3, c4, c5⟩ := cells3 g9
  obtain ⟨d0, d1, d2, d3, d4, d5⟩ := cells3 g12
  go_wp2_with fail
  clear c0 c1 c2 c3 c4 c5 d0 d1 d2 d3 d4 d5
  generalize hW : wn.alloc (.cells #[.int .i64 a2, .int .i64 b2, .string s2] 26) = Wg12 at *
  generalize wn.heap.size = xg12 at *
  clear hW
  refine (refrank_any (n := K1) lr (Nat.le_refl _) (by omega) (by omega) HL1.out).mono ?_
  rintro e wn ⟨r, rfl, hr, b⟩
  replace hb := bstep hb b
  replace lr := lr.step b
  replace g9 := g9.below b g9.lt
  replace kr := kr.step b
  replace g12 := g12.below b g12.lt
  clear b
  have HR := Lib.hid hr
  clear hr
  obtain ⟨c0, c1, c2, c3, c4, c5⟩ := cells3 g9
  obtain ⟨d0, d1, d2, d3, d4, d5⟩ := cells3 g12
  go_wp2_with fail
  clear c0 c1 c2 c3 c4 c5 d0 d1 d2 d3 d4 d5
  refine (CR1'.out _).mono ?_
  rintro e wn ⟨r2, rfl, hr2, b⟩
  replace hb := bstep hb b
  replace lr := lr.step b
  replace g9 := g9.below b g9.lt
  replace kr := kr.step b
  replace g12 := g12.below b g12.lt
  clear b
  obtain rfl : r = r2 := Rk.unique HR.out hr2
  clear hr2
  obtain ⟨c0, c1, c2, c3, c4, c5⟩ := cells3 g9
  obtain ⟨d0, d1, d2, d3, d4, d5⟩ := cells3 g12
  go_wp2_with fail
  clear c0 c1 c2 c3 c4 c5 d0 d1 d2 d3 d4 d5
  refine (CT'.out _).mono ?_
  rintro e wn ⟨rfl, b⟩
  replace hb := bstep hb b
  replace lr := lr.step b
  replace g9 := g9.below b g9.lt
  replace kr := kr.step b
  replace g12 := g12.below b g12.lt
  clear b
  obtain ⟨c0, c1, c2, c3, c4, c5⟩ := cells3 g9
  obtain ⟨d0, d1, d2, d3, d4, d5⟩ := cells3 g12
  go_wp2_with fail
  clear c0 c1 c2 c3 c4 c5 d0 d1 d2 d3 d4 d5
  refine (CTR'.out _).mono ?_
  rintro e wn ⟨A7, n7, c7, rfl, y5, y6, r7, b⟩
  replace hb := bstep hb b
  replace lr := lr.step b
  replace g9 := g9.below b g9.lt
  replace kr := kr.step b
  replace g12 := g12.below b g12.lt
  clear b
  obtain ⟨c0, c1, c2, c3, c4, c5⟩ := cells3 g9
  obtain ⟨d0, d1, d2, d3, d4, d5⟩ := cells3 g12
  go_wp2_with fail
  clear c0 c1 c2 c3 c4 c5 d0 d1 d2 d3 d4 d5
  refine (refturn_any lr (Nat.le_refl _) HL1.out (by omega) (by omega)).mono ?_
  rintro e wn ⟨A8, n8, c8, rfl, r8, b⟩
  replace hb := bstep hb b
  replace lr := lr.step b
  replace g9 := g9.below b g9.lt
  replace kr := kr.step b
  replace g12 := g12.below b g12.lt
  replace r7 := r7.step b
  clear b
  obtain ⟨c0, c1, c2, c3, c4, c5⟩ := cells3 g9
  obtain ⟨d0, d1, d2, d3, d4, d5⟩ := cells3 g12
  go_wp2_with fail
  clear c0 c1 c2 c3 c4 c5 d0 d1 d2 d3 d4 d5
  refine (refsame7_any r7 r8 (Nat.le_refl _) (Nat.le_refl _) (by omega) ST.out).mono ?_
  rintro e wn ⟨rfl, b⟩
  clear r7 r8
  replace hb := bstep hb b
  replace lr := lr.step b
  replace g9 := g9.below b g9.lt
  replace kr := kr.step b
  replace g12 := g12.below b g12.lt
  clear b
  rw [sameRows_self']
  obtain ⟨c0, c1, c2, c3, c4, c5⟩ := cells3 g9
  obtain ⟨d0, d1, d2, d3, d4, d5⟩ := cells3 g12
  go_wp2_with fail
  clear c0 c1 c2 c3 c4 c5 d0 d1 d2 d3 d4 d5
  refine (CT'.out _).mono ?_
  rintro e wn ⟨rfl, b⟩
  replace hb := bstep hb b
  replace lr := lr.step b
  replace g9 := g9.below b g9.lt
  replace kr := kr.step b
  replace g12 := g12.below b g12.lt
  clear b
  obtain ⟨c0, c1, c2, c3, c4, c5⟩ := cells3 g9
  obtain ⟨d0, d1, d2, d3, d4, d5⟩ := cells3 g12
  go_wp2_with fail
  clear c0 c1 c2 c3 c4 c5 d0 d1 d2 d3 d4 d5
  refine (CTW'.out _).mono ?_
  rintro e wn ⟨rfl, b⟩
  replace hb := bstep hb b
  replace lr := lr.step b
  replace g9 := g9.below b g9.lt
  replace kr := kr.step b
  replace g12 := g12.below b g12.lt
  clear b
  obtain ⟨c0, c1, c2, c3, c4, c5⟩ := cells3 g9
  obtain ⟨d0, d1, d2, d3, d4, d5⟩ := cells3 g12
  go_wp2_with fail
  clear c0 c1 c2 c3 c4 c5 d0 d1 d2 d3 d4 d5
  refine (CT'.out _).mono ?_
  rintro e wn ⟨rfl, b⟩
  replace hb := bstep hb b
  replace lr := lr.step b
  replace g9 := g9.below b g9.lt
  replace kr := kr.step b
  replace g12 := g12.below b g12.lt
  clear b
  obtain ⟨c0, c1, c2, c3, c4, c5⟩ := cells3 g9
  obtain ⟨d0, d1, d2, d3, d4, d5⟩ := cells3 g12
  go_wp2_with fail
  clear c0 c1 c2 c3 c4 c5 d0 d1 d2 d3 d4 d5
  refine (CTH'.out _).mono ?_
  rintro e wn ⟨rfl, b⟩
  replace hb := bstep hb b
  replace lr := lr.step b
  replace g9 := g9.below b g9.lt
  replace kr := kr.step b
  replace g12 := g12.below b g12.lt
  clear b
  obtain ⟨c0, c1, c2, c3, c4, c5⟩ := cells3 g9
  obtain ⟨d0, d1, d2, d3, d4, d5⟩ := cells3 g12
  go_wp2_with fail
  clear c0 c1 c2 c3 c4 c5 d0 d1 d2 d3 d4 d5
  refine (CMU'.out _).mono ?_
  rintro e wn ⟨rfl, b⟩
  replace hb := bstep hb b
  replace lr := lr.step b
  replace g9 := g9.below b g9.lt
  replace kr := kr.step b
  replace g12 := g12.below b g12.lt
  clear b
  have b := balloc wn (.cells #[.int .i64 0, .int .i64 0, .string { data := #[] }] 26)
  have g16 := Blk.new wn 26 #[.int .i64 0, .int .i64 0, .string { data := #[] }]
  replace hb := bstep hb b
  replace lr := lr.step b
  replace g9 := g9.below b g9.lt
  replace kr := kr.step b
  replace g12 := g12.below b g12.lt
  clear b
  obtain ⟨c0, c1, c2, c3, c4, c5⟩ := cells3 g9
  obtain ⟨d0, d1, d2, d3, d4, d5⟩ := cells3 g12
  obtain ⟨i0, i1, i2, i3, i4, i5⟩ := cells3 g16
  go_wp2_with fail
  clear c0 c1 c2 c3 c4 c5 d0 d1 d2 d3 d4 d5 i0 i1 i2 i3 i4 i5
  generalize hW : wn.alloc (.cells #[.int .i64 0, .int .i64 0, .string { data := #[] }] 26) = Wg16 at *
  generalize wn.heap.size = xg16 at *
  clear hW
  refine ((show Calls Try.prog 18 #[gv 0 []] _ _ from gheight_any 0 [] _)).mono ?_
  rintro e wn ⟨rfl, b⟩
  replace hb := bstep hb b
  replace lr := lr.step b
  replace g9 := g9.below b g9.lt
  replace kr := kr.step b
  replace g12 := g12.below b g12.lt
  replace g16 := g16.below b g16.lt
  clear b
  obtain ⟨c0, c1, c2, c3, c4, c5⟩ := cells3 g9
  obtain ⟨d0, d1, d2, d3, d4, d5⟩ := cells3 g12
  obtain ⟨i0, i1, i2, i3, i4, i5⟩ := cells3 g16
  go_wp2_with fail
  clear c0 c1 c2 c3 c4 c5 d0 d1 d2 d3 d4 d5 i0 i1 i2 i3 i4 i5
  refine (CI'.out _).mono ?_
  rintro e wn ⟨hcase, b⟩
  replace hb := bstep hb b
  replace lr := lr.step b
  replace g9 := g9.below b g9.lt
  replace kr := kr.step b
  replace g12 := g12.below b g12.lt
  replace g16 := g16.below b g16.lt
  clear b
  rcases hcase with ⟨rfl, hlt⟩ | ⟨D, rfl, hD⟩
  · have t3 : r < K1 := hlt r HR.out
    clear hlt
    simp only [gv_zero]
    have b := balloc wn (.cells #[.int .i64 0, .int .i64 0, .string { data := #[] }] 26)
    have g18 := Blk.new wn 26 #[.int .i64 0, .int .i64 0, .string { data := #[] }]
    replace hb := bstep hb b
    replace lr := lr.step b
    replace g9 := g9.below b g9.lt
    replace kr := kr.step b
    replace g12 := g12.below b g12.lt
    replace g16 := g16.below b g16.lt
    clear b
    obtain ⟨c0, c1, c2, c3, c4, c5⟩ := cells3 g9
    obtain ⟨d0, d1, d2, d3, d4, d5⟩ := cells3 g12
    obtain ⟨i0, i1, i2, i3, i4, i5⟩ := cells3 g16
    obtain ⟨j0, j1, j2, j3, j4, j5⟩ := cells3 g18
    go_wp2_with fail
    clear c0 c1 c2 c3 c4 c5 d0 d1 d2 d3 d4 d5 i0 i1 i2 i3 i4 i5 j0 j1 j2 j3 j4 j5
    generalize hW : wn.alloc (.cells #[.int .i64 0, .int .i64 0, .string { data := #[] }] 26) = Wg18 at *
    generalize wn.heap.size = xg18 at *
    clear hW
    refine ((show Calls Try.prog 18 #[gv 0 []] _ _ from gheight_any 0 [] _)).mono ?_
    rintro e wn ⟨rfl, b⟩
    replace hb := bstep hb b
    replace lr := lr.step b
    replace g9 := g9.below b g9.lt
    replace kr := kr.step b
    replace g12 := g12.below b g12.lt
    replace g16 := g16.below b g16.lt
    replace g18 := g18.below b g18.lt
    clear b
    obtain ⟨c0, c1, c2, c3, c4, c5⟩ := cells3 g9
    obtain ⟨d0, d1, d2, d3, d4, d5⟩ := cells3 g12
    obtain ⟨i0, i1, i2, i3, i4, i5⟩ := cells3 g16
    obtain ⟨j0, j1, j2, j3, j4, j5⟩ := cells3 g18
    go_wp2_with fail
    clear c0 c1 c2 c3 c4 c5 d0 d1 d2 d3 d4 d5 i0 i1 i2 i3 i4 i5 j0 j1 j2 j3 j4 j5
    go_ret
    exact ⟨rfl, hb⟩
  · have t3 : ¬ r < K1 := by have := inv_rank hD HL1.out HI.out HR.out; omega
    have OKD : GridOk K1 D := ⟨hD.2.1, by omega, by rw [hD.1]; omega, by rw [hD.1]; exact Nat.le_trans (Nat.mul_le_mul q5 q5) (by omega)⟩
    have CD := fun W => gmul_ok (w := W) HOK1.out OKD hD.1.symm (by rw [HI.out]; exact Nat.le_trans (Nat.mul_le_mul q5 q5) (by omega))
    rw [inv_mul_right hD HL1.out HI.out] at CD
    have CS := fun W => gsame_any K1 K1 (unitG K1) (unitG K1) W
    rw [sameG_self'] at CS
    have CU := CU'.out
    obtain ⟨a5, b5, s5, g5⟩ := gv_parts K1 D
    obtain ⟨a6, b6, s6, g6⟩ := gv_parts K1 (unitG K1)
    simp only [g1, g5, g6] at CD
    simp only [g6] at CS CU
    rw [g5]
    have CD' := Lib.hid CD
    have CS' := Lib.hid CS
    have CU2 := Lib.hid CU
    clear CD CS CU hD OKD g5 g6
    have b := balloc wn (.cells #[.int .i64 a5, .int .i64 b5, .string s5] 26)
    have g18 := Blk.new wn 26 #[.int .i64 a5, .int .i64 b5, .string s5]
    replace hb := bstep hb b
    replace lr := lr.step b
    replace g9 := g9.below b g9.lt
    replace kr := kr.step b
    replace g12 := g12.below b g12.lt
    replace g16 := g16.below b g16.lt
    clear b
    obtain ⟨c0, c1, c2, c3, c4, c5⟩ := cells3 g9
    obtain ⟨d0, d1, d2, d3, d4, d5⟩ := cells3 g12
    obtain ⟨i0, i1, i2, i3, i4, i5⟩ := cells3 g16
    obtain ⟨j0, j1, j2, j3, j4, j5⟩ := cells3 g18
    go_wp2_with fail
    clear c0 c1 c2 c3 c4 c5 d0 d1 d2 d3 d4 d5 i0 i1 i2 i3 i4 i5 j0 j1 j2 j3 j4 j5
    generalize hW : wn.alloc (.cells #[.int .i64 a5, .int .i64 b5, .string s5] 26) = Wg18 at *
    generalize wn.heap.size = xg18 at *
    clear hW
    refine (CD'.out _).mono ?_
    rintro e wn ⟨rfl, b⟩
    replace hb := bstep hb b
    replace lr := lr.step b
    replace g9 := g9.below b g9.lt
    replace kr := kr.step b
    replace g12 := g12.below b g12.lt
    replace g16 := g16.below b g16.lt
    replace g18 := g18.below b g18.lt
    clear b
    have b := balloc wn (.cells #[.int .i64 a6, .int .i64 b6, .string s6] 26)
    have g20 := Blk.new wn 26 #[.int .i64 a6, .int .i64 b6, .string s6]
    replace hb := bstep hb b
    replace lr := lr.step b
    replace g9 := g9.below b g9.lt
    replace kr := kr.step b
    replace g12 := g12.below b g12.lt
    replace g16 := g16.below b g16.lt
    replace g18 := g18.below b g18.lt
    clear b
    obtain ⟨c0, c1, c2, c3, c4, c5⟩ := cells3 g9
    obtain ⟨d0, d1, d2, d3, d4, d5⟩ := cells3 g12
    obtain ⟨i0, i1, i2, i3, i4, i5⟩ := cells3 g16
    obtain ⟨j0, j1, j2, j3, j4, j5⟩ := cells3 g18
    obtain ⟨m0, m1, m2, m3, m4, m5⟩ := cells3 g20
    go_wp2_with fail
    clear c0 c1 c2 c3 c4 c5 d0 d1 d2 d3 d4 d5 i0 i1 i2 i3 i4 i5 j0 j1 j2 j3 j4 j5 m0 m1 m2 m3 m4 m5
    generalize hW : wn.alloc (.cells #[.int .i64 a6, .int .i64 b6, .string s6] 26) = Wg20 at *
    generalize wn.heap.size = xg20 at *
    clear hW
    refine (CU2.out _).mono ?_
    rintro e wn ⟨rfl, b⟩
    replace hb := bstep hb b
    replace lr := lr.step b
    replace g9 := g9.below b g9.lt
    replace kr := kr.step b
    replace g12 := g12.below b g12.lt
    replace g16 := g16.below b g16.lt
    replace g18 := g18.below b g18.lt
    replace g20 := g20.below b g20.lt
    clear b
    have b := balloc wn (.cells #[.int .i64 a6, .int .i64 b6, .string s6] 26)
    have g22 := Blk.new wn 26 #[.int .i64 a6, .int .i64 b6, .string s6]
    replace hb := bstep hb b
    replace lr := lr.step b
    replace g9 := g9.below b g9.lt
    replace kr := kr.step b
    replace g12 := g12.below b g12.lt
    replace g16 := g16.below b g16.lt
    replace g18 := g18.below b g18.lt
    replace g20 := g20.below b g20.lt
    clear b
    obtain ⟨c0, c1, c2, c3, c4, c5⟩ := cells3 g9
    obtain ⟨d0, d1, d2, d3, d4, d5⟩ := cells3 g12
    obtain ⟨i0, i1, i2, i3, i4, i5⟩ := cells3 g16
    obtain ⟨j0, j1, j2, j3, j4, j5⟩ := cells3 g18
    obtain ⟨m0, m1, m2, m3, m4, m5⟩ := cells3 g20
    obtain ⟨n0, n1, n2, n3, n4, n5⟩ := cells3 g22
    go_wp2_with fail
    clear c0 c1 c2 c3 c4 c5 d0 d1 d2 d3 d4 d5 i0 i1 i2 i3 i4 i5 j0 j1 j2 j3 j4 j5 m0 m1 m2 m3 m4 m5 n0 n1 n2 n3 n4 n5
    generalize hW : wn.alloc (.cells #[.int .i64 a6, .int .i64 b6, .string s6] 26) = Wg22 at *
    generalize wn.heap.size = xg22 at *
    clear hW
    refine (CS'.out _).mono ?_
    rintro e wn ⟨rfl, b⟩
    replace hb := bstep hb b
    replace lr := lr.step b
    replace g9 := g9.below b g9.lt
    replace kr := kr.step b
    replace g12 := g12.below b g12.lt
    replace g16 := g16.below b g16.lt
    replace g18 := g18.below b g18.lt
    replace g20 := g20.below b g20.lt
    replace g22 := g22.below b g22.lt
    clear b
    obtain ⟨c0, c1, c2, c3, c4, c5⟩ := cells3 g9
    obtain ⟨d0, d1, d2, d3, d4, d5⟩ := cells3 g12
    obtain ⟨i0, i1, i2, i3, i4, i5⟩ := cells3 g16
    obtain ⟨j0, j1, j2, j3, j4, j5⟩ := cells3 g18
    obtain ⟨m0, m1, m2, m3, m4, m5⟩ := cells3 g20
    obtain ⟨n0, n1, n2, n3, n4, n5⟩ := cells3 g22
    go_wp2_with fail
    clear c0 c1 c2 c3 c4 c5 d0 d1 d2 d3 d4 d5 i0 i1 i2 i3 i4 i5 j0 j1 j2 j3 j4 j5 m0 m1 m2 m3 m4 m5 n0 n1 n2 n3 n4 n5
    go_ret
    exact ⟨rfl, hb⟩
theorem reckons_OS (u1 u2 : UInt8) (A1 A2 : Option Addr) (n1 c1 n2 c2 : Nat) (rows more : List (List UInt8)) (w : World) (h1 : Rds w w.heap.size A1 n1 rows) (h2 : Rds w w.heap.size A2 n2 more) (z1 : n1 ≤ c1 ∧ c1 ≤ maxLen) (z2 : n2 ≤ c2 ∧ c2 ≤ maxLen) (hf1 : few7B rows = true) (hf2 : few7B more = true) (hM : u1.toNat % 31 = (madeL (u2.toNat % 31) more).length) (hI : u1.toNat % 31 ≠ (madeL (u1.toNat % 31) rows).length) :
    Calls Try.prog 3 #[.int .u8 (bv u1), .slice A1 n1 c1, .int .u8 (bv u2), .slice A2 n2 c2] w fun e w' => e = .returned (.bool true) ∧ Below w.heap.size w w' := by
  unfold maxLen at z1 z2
  obtain ⟨z3, z4⟩ := z1
  obtain ⟨z5, z6⟩ := z2
  have HF1 := Lib.hid hf1
  have HF2 := Lib.hid hf2
  have q1 := few7_len hf1
  have q2 := few7_len hf2
  have q3 : n1 ≤ 30 := by have := h1.1; omega
  have q4 : n2 ≤ 30 := by have := h2.1; omega
  have q5 : u1.toNat % 31 ≤ 30 := by have := Nat.mod_lt u1.toNat (show 31 > 0 by omega); omega
  have q6 : u2.toNat % 31 ≤ 30 := by have := Nat.mod_lt u2.toNat (show 31 > 0 by omega); omega
  have CM1 := fun W (h : Rds W W.heap.size A1 n1 rows) => made_any (u := u1) (c := c1) h (Nat.le_refl _) q3
  have CM2 := fun W (h : Rds W W.heap.size A2 n2 more) => made_any (u := u2) (c := c2) h (Nat.le_refl _) q4
  have OK1 := made_ok q5 q1
  have OK2 := made_ok q6 q2
  have q7 : (madeL (u1.toNat % 31) rows).length ≤ 30 := by rw [made_len]; exact q1
  have q8 : (madeL (u2.toNat % 31) more).length ≤ 30 := by rw [made_len]; exact q2
  unfold MadeEnds at CM1 CM2
  clear hf1 hf2 q1 q2 q3 q4
  generalize madeL (u1.toNat % 31) rows = L1 at *
  generalize u1.toNat % 31 = K1 at *
  generalize madeL (u2.toNat % 31) more = L2 at *
  generalize u2.toNat % 31 = K2 at *
  have CR1 := fun W => grank_any (w := W) OK1
  have CT := fun W => gturned_any (w := W) OK1
  have OKT := turnL_ok OK1
  have CTR := fun W => grows_any (w := W) OKT
  have CTW := fun W => gwidth_any L1.length (turnL K1 L1) W
  have CTH := fun W => gheight_any L1.length (turnL K1 L1) W
  rw [turnL_len] at CTH
  have ST := Lib.hid (short_of_ok OKT)
  have HL1 := Lib.hid OK1.1
  have HOK1 := Lib.hid OK1
  obtain ⟨a1, b1, s1, g1⟩ := gv_parts K1 L1
  obtain ⟨a2, b2, s2, g2⟩ := gv_parts K2 L2
  obtain ⟨a3, b3, s3, g3⟩ := gv_parts L1.length (turnL K1 L1)
  have q9 : L1.length * K2 ≤ 30 * 30 := Nat.mul_le_mul q7 q6
  have CMU := fun W => gmul_ok (w := W) OK1 OK2 hM (by omega)
  have OKP : GridOk K2 (mulL L1 L2 K2) := ⟨mulL_lenB _ _ _, by omega, by rw [mulL_len]; omega, by rw [mulL_len]; omega⟩
  have CPR := fun W => grows_any (w := W) OKP
  have CPW := fun W => gwidth_any K2 (mulL L1 L2 K2) W
  have SP := Lib.hid (short_of_ok OKP)
  have HA : Hid (lenB L2.length L1 = true) := Lib.hid (by rw [← hM]; exact OK1.1)
  have HL2 := Lib.hid OK2.1
  have t1 : ((K1 : Int) != (L2.length : Int)) = false := by rw [bne_eq_false_iff_eq]; omega
  obtain ⟨a4, b4, s4, g4⟩ := gv_parts K2 (mulL L1 L2 K2)
  clear OKP q9
  have CI := fun W => ginv_size (k := K1) (rows := L1) (w := W) hI
  have t2 : ((K1 : Int) != (L1.length : Int)) = true := by rw [bne_iff_ne]; omega
  simp only [g1, g2, g3, gv_zero, g4] at CM1
  simp only [g1, g2, g3, gv_zero, g4] at CM2
  simp only [g1, g2, g3, gv_zero, g4] at CR1
  simp only [g1, g2, g3, gv_zero, g4] at CT
  simp only [g1, g2, g3, gv_zero, g4] at CTR
  simp only [g1, g2, g3, gv_zero, g4] at CTW
  simp only [g1, g2, g3, gv_zero, g4] at CTH
  simp only [g1, g2, g3, gv_zero, g4] at CMU
  simp only [g1, g2, g3, gv_zero, g4] at CI
  simp only [g1, g2, g3, gv_zero, g4] at CPR
  simp only [g1, g2, g3, gv_zero, g4] at CPW
  have CM1' := Lib.hid CM1
  have CM2' := Lib.hid CM2
  have CR1' := Lib.hid CR1
  have CT' := Lib.hid CT
  have CTR' := Lib.hid CTR
  have CTW' := Lib.hid CTW
  have CTH' := Lib.hid CTH
  have CMU' := Lib.hid CMU
  have CI' := Lib.hid CI
  have CPR' := Lib.hid CPR
  have CPW' := Lib.hid CPW
  have HM := Lib.hid hM
  clear CM1 CM2 CR1 CT CTR CTW CTH CMU CI CPR CPW hM hI OK1 OK2 OKT
  go_enter Try.func3, Try.ntmps3
  go_wp2_with fail
  refine (awake7 _).mono ?_
  rintro e w1 ⟨rfl, hb⟩
  replace h1 := h1.step hb
  replace h2 := h2.step hb
  go_wp2_with fail
  refine (few7_any h1 (by omega)).mono ?_
  rintro e w' ⟨rfl, rfl⟩
  rw [HF1.out]
  go_wp2_with fail
  refine (few7_any h2 (by omega)).mono ?_
  rintro e w' ⟨rfl, rfl⟩
  rw [HF2.out]
  go_wp2_with fail
  refine (CM1'.out _ h1).mono ?_
  rintro e wn ⟨Al, ml, cl, rfl, lr, y1, y2, b⟩
  replace hb := bstep hb b
  replace h2 := h2.step b
  clear b
  obtain rfl : L1.length = ml := lr.1
  clear h1
  have b := balloc wn (.cells #[.int .i64 a1, .int .i64 b1, .string s1] 26)
  have g9 := Blk.new wn 26 #[.int .i64 a1, .int .i64 b1, .string s1]
  replace hb := bstep hb b
  replace h2 := h2.step b
  replace lr := lr.step b
  clear b
  obtain ⟨c0, c1, c2, c3, c4, c5⟩ := cells3 g9
  go_wp2_with fail
  clear c0 c1 c2 c3 c4 c5
  generalize hW : wn.alloc (.cells #[.int .i64 a1, .int .i64 b1, .string s1] 26) = Wg9 at *
  generalize wn.heap.size = xg9 at *
  clear hW
  refine (CM2'.out _ h2).mono ?_
  rintro e wn ⟨Ak, mk, ck, rfl, kr, y3, y4, b⟩
  clear h2
  replace hb := bstep hb b
  replace lr := lr.step b
  replace g9 := g9.below b g9.lt
  clear b
  obtain rfl : L2.length = mk := kr.1
  have b := balloc wn (.cells #[.int .i64 a2, .int .i64 b2, .string s2] 26)
  have g12 := Blk.new wn 26 #[.int .i64 a2, .int .i64 b2, .string s2]
  replace hb := bstep hb b
  replace lr := lr.step b
  replace g9 := g9.below b g9.lt
  replace kr := kr.step b
  clear b
  obtain ⟨c0, c1, c2, c3, c4, c5⟩ := cells3 g9
  obtain ⟨d0, d1, d2, d3, d4, d5⟩ := cells3 g12
  go_wp2_with fail
  clear c0 c1 c2 c3 c4 c5 d0 d1 d2 d3 d4 d5
  generalize hW : wn.alloc (.cells #[.int .i64 a2, .int .i64 b2, .string s2] 26) = Wg12 at *
  generalize wn.heap.size = xg12 at *
  clear hW
  refine (refrank_any (n := K1) lr (Nat.le_refl _) (by omega) (by omega) HL1.out).mono ?_
  rintro e wn ⟨r, rfl, hr, b⟩
  replace hb := bstep hb b
  replace lr := lr.step b
  replace g9 := g9.below b g9.lt
  replace kr := kr.step b
  replace g12 := g12.below b g12.lt
  clear b
  have HR := Lib.hid hr
  clear hr
  obtain ⟨c0, c1, c2, c3, c4, c5⟩ := cells3 g9
  obtain ⟨d0, d1, d2, d3, d4, d5⟩ := cells3 g12
  go_wp2_with fail
  clear c0 c1 c2 c3 c4 c5 d0 d1 d2 d3 d4 d5
  refine (CR1'.out _).mono ?_
  rintro e wn ⟨r2, rfl, hr2, b⟩
  replace hb := bstep hb b
  replace lr := lr.step b
  replace g9 := g9.below b g9.lt
  replace kr := kr.step b
  replace g12 := g12.below b g12.lt
  clear b
  obtain rfl : r = r2 := Rk.unique HR.out hr2
  clear hr2
  obtain ⟨c0, c1, c2, c3, c4, c5⟩ := cells3 g9
  obtain ⟨d0, d1, d2, d3, d4, d5⟩ := cells3 g12
  go_wp2_with fail
  clear c0 c1 c2 c3 c4 c5 d0 d1 d2 d3 d4 d5
  refine (CT'.out _).mono ?_
  rintro e wn ⟨rfl, b⟩
  replace hb := bstep hb b
  replace lr := lr.step b
  replace g9 := g9.below b g9.lt
  replace kr := kr.step b
  replace g12 := g12.below b g12.lt
  clear b
  obtain ⟨c0, c1, c2, c3, c4, c5⟩ := cells3 g9
  obtain ⟨d0, d1, d2, d3, d4, d5⟩ := cells3 g12
  go_wp2_with fail
  clear c0 c1 c2 c3 c4 c5 d0 d1 d2 d3 d4 d5
  refine (CTR'.out _).mono ?_
  rintro e wn ⟨A7, n7, c7, rfl, y5, y6, r7, b⟩
  replace hb := bstep hb b
  replace lr := lr.step b
  replace g9 := g9.below b g9.lt
  replace kr := kr.step b
  replace g12 := g12.below b g12.lt
  clear b
  obtain ⟨c0, c1, c2, c3, c4, c5⟩ := cells3 g9
  obtain ⟨d0, d1, d2, d3, d4, d5⟩ := cells3 g12
  go_wp2_with fail
  clear c0 c1 c2 c3 c4 c5 d0 d1 d2 d3 d4 d5
  refine (refturn_any lr (Nat.le_refl _) HL1.out (by omega) (by omega)).mono ?_
  rintro e wn ⟨A8, n8, c8, rfl, r8, b⟩
  replace hb := bstep hb b
  replace lr := lr.step b
  replace g9 := g9.below b g9.lt
  replace kr := kr.step b
  replace g12 := g12.below b g12.lt
  replace r7 := r7.step b
  clear b
  obtain ⟨c0, c1, c2, c3, c4, c5⟩ := cells3 g9
  obtain ⟨d0, d1, d2, d3, d4, d5⟩ := cells3 g12
  go_wp2_with fail
  clear c0 c1 c2 c3 c4 c5 d0 d1 d2 d3 d4 d5
  refine (refsame7_any r7 r8 (Nat.le_refl _) (Nat.le_refl _) (by omega) ST.out).mono ?_
  rintro e wn ⟨rfl, b⟩
  clear r7 r8
  replace hb := bstep hb b
  replace lr := lr.step b
  replace g9 := g9.below b g9.lt
  replace kr := kr.step b
  replace g12 := g12.below b g12.lt
  clear b
  rw [sameRows_self']
  obtain ⟨c0, c1, c2, c3, c4, c5⟩ := cells3 g9
  obtain ⟨d0, d1, d2, d3, d4, d5⟩ := cells3 g12
  go_wp2_with fail
  clear c0 c1 c2 c3 c4 c5 d0 d1 d2 d3 d4 d5
  refine (CT'.out _).mono ?_
  rintro e wn ⟨rfl, b⟩
  replace hb := bstep hb b
  replace lr := lr.step b
  replace g9 := g9.below b g9.lt
  replace kr := kr.step b
  replace g12 := g12.below b g12.lt
  clear b
  obtain ⟨c0, c1, c2, c3, c4, c5⟩ := cells3 g9
  obtain ⟨d0, d1, d2, d3, d4, d5⟩ := cells3 g12
  go_wp2_with fail
  clear c0 c1 c2 c3 c4 c5 d0 d1 d2 d3 d4 d5
  refine (CTW'.out _).mono ?_
  rintro e wn ⟨rfl, b⟩
  replace hb := bstep hb b
  replace lr := lr.step b
  replace g9 := g9.below b g9.lt
  replace kr := kr.step b
  replace g12 := g12.below b g12.lt
  clear b
  obtain ⟨c0, c1, c2, c3, c4, c5⟩ := cells3 g9
  obtain ⟨d0, d1, d2, d3, d4, d5⟩ := cells3 g12
  go_wp2_with fail
  clear c0 c1 c2 c3 c4 c5 d0 d1 d2 d3 d4 d5
  refine (CT'.out _).mono ?_
  rintro e wn ⟨rfl, b⟩
  replace hb := bstep hb b
  replace lr := lr.step b
  replace g9 := g9.below b g9.lt
  replace kr := kr.step b
  replace g12 := g12.below b g12.lt
  clear b
  obtain ⟨c0, c1, c2, c3, c4, c5⟩ := cells3 g9
  obtain ⟨d0, d1, d2, d3, d4, d5⟩ := cells3 g12
  go_wp2_with fail
  clear c0 c1 c2 c3 c4 c5 d0 d1 d2 d3 d4 d5
  refine (CTH'.out _).mono ?_
  rintro e wn ⟨rfl, b⟩
  replace hb := bstep hb b
  replace lr := lr.step b
  replace g9 := g9.below b g9.lt
  replace kr := kr.step b
  replace g12 := g12.below b g12.lt
  clear b
  obtain ⟨c0, c1, c2, c3, c4, c5⟩ := cells3 g9
  obtain ⟨d0, d1, d2, d3, d4, d5⟩ := cells3 g12
  go_wp2_with fail
  clear c0 c1 c2 c3 c4 c5 d0 d1 d2 d3 d4 d5
  refine (CMU'.out _).mono ?_
  rintro e wn ⟨rfl, b⟩
  replace hb := bstep hb b
  replace lr := lr.step b
  replace g9 := g9.below b g9.lt
  replace kr := kr.step b
  replace g12 := g12.below b g12.lt
  clear b
  have b := balloc wn (.cells #[.int .i64 a4, .int .i64 b4, .string s4] 26)
  have g16 := Blk.new wn 26 #[.int .i64 a4, .int .i64 b4, .string s4]
  replace hb := bstep hb b
  replace lr := lr.step b
  replace g9 := g9.below b g9.lt
  replace kr := kr.step b
  replace g12 := g12.below b g12.lt
  clear b
  obtain ⟨c0, c1, c2, c3, c4, c5⟩ := cells3 g9
  obtain ⟨d0, d1, d2, d3, d4, d5⟩ := cells3 g12
  obtain ⟨i0, i1, i2, i3, i4, i5⟩ := cells3 g16
  go_wp2_with fail
  clear c0 c1 c2 c3 c4 c5 d0 d1 d2 d3 d4 d5 i0 i1 i2 i3 i4 i5
  generalize hW : wn.alloc (.cells #[.int .i64 a4, .int .i64 b4, .string s4] 26) = Wg16 at *
  generalize wn.heap.size = xg16 at *
  clear hW
  refine (CPR'.out _).mono ?_
  rintro e wn ⟨A7, n7, c7, rfl, y5, y6, r7, b⟩
  replace hb := bstep hb b
  replace lr := lr.step b
  replace g9 := g9.below b g9.lt
  replace kr := kr.step b
  replace g12 := g12.below b g12.lt
  replace g16 := g16.below b g16.lt
  clear b
  obtain ⟨c0, c1, c2, c3, c4, c5⟩ := cells3 g9
  obtain ⟨d0, d1, d2, d3, d4, d5⟩ := cells3 g12
  obtain ⟨i0, i1, i2, i3, i4, i5⟩ := cells3 g16
  go_wp2_with fail
  clear c0 c1 c2 c3 c4 c5 d0 d1 d2 d3 d4 d5 i0 i1 i2 i3 i4 i5
  refine (refmul7_any (p := K2) lr kr (Nat.le_refl _) (Nat.le_refl _) HA.out HL2.out (by omega) (by omega) (by omega)).mono ?_
  rintro e wn ⟨A8, n8, c8, rfl, r8, b⟩
  replace hb := bstep hb b
  replace lr := lr.step b
  replace g9 := g9.below b g9.lt
  replace kr := kr.step b
  replace g12 := g12.below b g12.lt
  replace g16 := g16.below b g16.lt
  replace r7 := r7.step b
  clear b
  obtain ⟨c0, c1, c2, c3, c4, c5⟩ := cells3 g9
  obtain ⟨d0, d1, d2, d3, d4, d5⟩ := cells3 g12
  obtain ⟨i0, i1, i2, i3, i4, i5⟩ := cells3 g16
  go_wp2_with fail
  clear c0 c1 c2 c3 c4 c5 d0 d1 d2 d3 d4 d5 i0 i1 i2 i3 i4 i5
  refine (refsame7_any r7 r8 (Nat.le_refl _) (Nat.le_refl _) (by omega) SP.out).mono ?_
  rintro e wn ⟨rfl, b⟩
  clear r7 r8
  replace hb := bstep hb b
  replace lr := lr.step b
  replace g9 := g9.below b g9.lt
  replace kr := kr.step b
  replace g12 := g12.below b g12.lt
  replace g16 := g16.below b g16.lt
  clear b
  rw [sameRows_self']
  obtain ⟨c0, c1, c2, c3, c4, c5⟩ := cells3 g9
  obtain ⟨d0, d1, d2, d3, d4, d5⟩ := cells3 g12
  obtain ⟨i0, i1, i2, i3, i4, i5⟩ := cells3 g16
  go_wp2_with fail
  clear c0 c1 c2 c3 c4 c5 d0 d1 d2 d3 d4 d5 i0 i1 i2 i3 i4 i5
  refine (CPW'.out _).mono ?_
  rintro e wn ⟨rfl, b⟩
  replace hb := bstep hb b
  replace lr := lr.step b
  replace g9 := g9.below b g9.lt
  replace kr := kr.step b
  replace g12 := g12.below b g12.lt
  replace g16 := g16.below b g16.lt
  clear b
  obtain ⟨c0, c1, c2, c3, c4, c5⟩ := cells3 g9
  obtain ⟨d0, d1, d2, d3, d4, d5⟩ := cells3 g12
  obtain ⟨i0, i1, i2, i3, i4, i5⟩ := cells3 g16
  go_wp2_with fail
  clear c0 c1 c2 c3 c4 c5 d0 d1 d2 d3 d4 d5 i0 i1 i2 i3 i4 i5
  refine (CI'.out _).mono ?_
  rintro e wn ⟨rfl, b⟩
  replace hb := bstep hb b
  replace lr := lr.step b
  replace g9 := g9.below b g9.lt
  replace kr := kr.step b
  replace g12 := g12.below b g12.lt
  replace g16 := g16.below b g16.lt
  clear b
  have b := balloc wn (.cells #[.int .i64 0, .int .i64 0, .string { data := #[] }] 26)
  have g18 := Blk.new wn 26 #[.int .i64 0, .int .i64 0, .string { data := #[] }]
  replace hb := bstep hb b
  replace lr := lr.step b
  replace g9 := g9.below b g9.lt
  replace kr := kr.step b
  replace g12 := g12.below b g12.lt
  replace g16 := g16.below b g16.lt
  clear b
  obtain ⟨c0, c1, c2, c3, c4, c5⟩ := cells3 g9
  obtain ⟨d0, d1, d2, d3, d4, d5⟩ := cells3 g12
  obtain ⟨i0, i1, i2, i3, i4, i5⟩ := cells3 g16
  obtain ⟨j0, j1, j2, j3, j4, j5⟩ := cells3 g18
  go_wp2_with fail
  clear c0 c1 c2 c3 c4 c5 d0 d1 d2 d3 d4 d5 i0 i1 i2 i3 i4 i5 j0 j1 j2 j3 j4 j5
  generalize hW : wn.alloc (.cells #[.int .i64 0, .int .i64 0, .string { data := #[] }] 26) = Wg18 at *
  generalize wn.heap.size = xg18 at *
  clear hW
  refine ((show Calls Try.prog 18 #[gv 0 []] _ _ from gheight_any 0 [] _)).mono ?_
  rintro e wn ⟨rfl, b⟩
  replace hb := bstep hb b
  replace lr := lr.step b
  replace g9 := g9.below b g9.lt
  replace kr := kr.step b
  replace g12 := g12.below b g12.lt
  replace g16 := g16.below b g16.lt
  replace g18 := g18.below b g18.lt
  clear b
  obtain ⟨c0, c1, c2, c3, c4, c5⟩ := cells3 g9
  obtain ⟨d0, d1, d2, d3, d4, d5⟩ := cells3 g12
  obtain ⟨i0, i1, i2, i3, i4, i5⟩ := cells3 g16
  obtain ⟨j0, j1, j2, j3, j4, j5⟩ := cells3 g18
  go_wp2_with fail
  clear c0 c1 c2 c3 c4 c5 d0 d1 d2 d3 d4 d5 i0 i1 i2 i3 i4 i5 j0 j1 j2 j3 j4 j5
  go_ret
  exact ⟨rfl, hb⟩
theorem reckons_OQ (u1 u2 : UInt8) (A1 A2 : Option Addr) (n1 c1 n2 c2 : Nat) (rows more : List (List UInt8)) (w : World) (h1 : Rds w w.heap.size A1 n1 rows) (h2 : Rds w w.heap.size A2 n2 more) (z1 : n1 ≤ c1 ∧ c1 ≤ maxLen) (z2 : n2 ≤ c2 ∧ c2 ≤ maxLen) (hf1 : few7B rows = true) (hf2 : few7B more = true) (hM : u1.toNat % 31 = (madeL (u2.toNat % 31) more).length) (hI : (madeL (u1.toNat % 31) rows).length = u1.toNat % 31) :
    Calls Try.prog 3 #[.int .u8 (bv u1), .slice A1 n1 c1, .int .u8 (bv u2), .slice A2 n2 c2] w fun e w' => e = .returned (.bool true) ∧ Below w.heap.size w w' := by
  unfold maxLen at z1 z2
  obtain ⟨z3, z4⟩ := z1
  obtain ⟨z5, z6⟩ := z2
  have HF1 := Lib.hid hf1
  have HF2 := Lib.hid hf2
  have q1 := few7_len hf1
  have q2 := few7_len hf2
  have q3 : n1 ≤ 30 := by have := h1.1; omega
  have q4 : n2 ≤ 30 := by have := h2.1; omega
  have q5 : u1.toNat % 31 ≤ 30 := by have := Nat.mod_lt u1.toNat (show 31 > 0 by omega); omega
  have q6 : u2.toNat % 31 ≤ 30 := by have := Nat.mod_lt u2.toNat (show 31 > 0 by omega); omega
  have CM1 := fun W (h : Rds W W.heap.size A1 n1 rows) => made_any (u := u1) (c := c1) h (Nat.le_refl _) q3
  have CM2 := fun W (h : Rds W W.heap.size A2 n2 more) => made_any (u := u2) (c := c2) h (Nat.le_refl _) q4
  have OK1 := made_ok q5 q1
  have OK2 := made_ok q6 q2
  have q7 : (madeL (u1.toNat % 31) rows).length ≤ 30 := by rw [made_len]; exact q1
  have q8 : (madeL (u2.toNat % 31) more).length ≤ 30 := by rw [made_len]; exact q2
  unfold MadeEnds at CM1 CM2
  clear hf1 hf2 q1 q2 q3 q4
  generalize madeL (u1.toNat % 31) rows = L1 at *
  generalize u1.toNat % 31 = K1 at *
  generalize madeL (u2.toNat % 31) more = L2 at *
  generalize u2.toNat % 31 = K2 at *
  have CR1 := fun W => grank_any (w := W) OK1
  have CT := fun W => gturned_any (w := W) OK1
  have OKT := turnL_ok OK1
  have CTR := fun W => grows_any (w := W) OKT
  have CTW := fun W => gwidth_any L1.length (turnL K1 L1) W
  have CTH := fun W => gheight_any L1.length (turnL K1 L1) W
  rw [turnL_len] at CTH
  have ST := Lib.hid (short_of_ok OKT)
  have HL1 := Lib.hid OK1.1
  have HOK1 := Lib.hid OK1
  obtain ⟨a1, b1, s1, g1⟩ := gv_parts K1 L1
  obtain ⟨a2, b2, s2, g2⟩ := gv_parts K2 L2
  obtain ⟨a3, b3, s3, g3⟩ := gv_parts L1.length (turnL K1 L1)
  have q9 : L1.length * K2 ≤ 30 * 30 := Nat.mul_le_mul q7 q6
  have CMU := fun W => gmul_ok (w := W) OK1 OK2 hM (by omega)
  have OKP : GridOk K2 (mulL L1 L2 K2) := ⟨mulL_lenB _ _ _, by omega, by rw [mulL_len]; omega, by rw [mulL_len]; omega⟩
  have CPR := fun W => grows_any (w := W) OKP
  have CPW := fun W => gwidth_any K2 (mulL L1 L2 K2) W
  have SP := Lib.hid (short_of_ok OKP)
  have HA : Hid (lenB L2.length L1 = true) := Lib.hid (by rw [← hM]; exact OK1.1)
  have HL2 := Lib.hid OK2.1
  have t1 : ((K1 : Int) != (L2.length : Int)) = false := by rw [bne_eq_false_iff_eq]; omega
  obtain ⟨a4, b4, s4, g4⟩ := gv_parts K2 (mulL L1 L2 K2)
  clear OKP q9
  have CI := fun W => ginv_any (w := W) OK1 hI
  unfold InvEnds at CI
  have HI := Lib.hid hI
  have t2 : ((K1 : Int) != (L1.length : Int)) = false := by rw [bne_eq_false_iff_eq]; omega
  have CU := fun W => gunitn_ok K1 W (by omega)
  simp only [g1, g2, g3, gv_zero, g4] at CM1
  simp only [g1, g2, g3, gv_zero, g4] at CM2
  simp only [g1, g2, g3, gv_zero, g4] at CR1
  simp only [g1, g2, g3, gv_zero, g4] at CT
  simp only [g1, g2, g3, gv_zero, g4] at CTR
  simp only [g1, g2, g3, gv_zero, g4] at CTW
  simp only [g1, g2, g3, gv_zero, g4] at CTH
  simp only [g1, g2, g3, gv_zero, g4] at CMU
  simp only [g1, g2, g3, gv_zero, g4] at CI
  simp only [g1, g2, g3, gv_zero, g4] at CPR
  simp only [g1, g2, g3, gv_zero, g4] at CPW
  have CM1' := Lib.hid CM1
  have CM2' := Lib.hid CM2
  have CR1' := Lib.hid CR1
  have CT' := Lib.hid CT
  have CTR' := Lib.hid CTR
  have CTW' := Lib.hid CTW
  have CTH' := Lib.hid CTH
  have CMU' := Lib.hid CMU
  have CI' := Lib.hid CI
  have CPR' := Lib.hid CPR
  have CPW' := Lib.hid CPW
  have CU' := Lib.hid CU
  clear CU
  have HM := Lib.hid hM
  clear CM1 CM2 CR1 CT CTR CTW CTH CMU CI CPR CPW hM hI OK1 OK2 OKT
  go_enter Try.func3, Try.ntmps3
  go_wp2_with fail
  refine (awake7 _).mono ?_
  rintro e w1 ⟨rfl, hb⟩
  replace h1 := h1.step hb
  replace h2 := h2.step hb
  go_wp2_with fail
  refine (few7_any h1 (by omega)).mono ?_
  rintro e w' ⟨rfl, rfl⟩
  rw [HF1.out]
  go_wp2_with fail
  refine (few7_any h2 (by omega)).mono ?_
  rintro e w' ⟨rfl, rfl⟩
  rw [HF2.out]
  go_wp2_with fail
  refine (CM1'.out _ h1).mono ?_
  rintro e wn ⟨Al, ml, cl, rfl, lr, y1, y2, b⟩
  replace hb := bstep hb b
  replace h2 := h2.step b
  clear b
  obtain rfl : L1.length = ml := lr.1
  clear h1
  have b := balloc wn (.cells #[.int .i64 a1, .int .i64 b1, .string s1] 26)
  have g9 := Blk.new wn 26 #[.int .i64 a1, .int .i64 b1, .string s1]
  replace hb := bstep hb b
  replace h2 := h2.step b
  replace lr := lr.step b
  clear b
  obtain ⟨c0, c1, c2, c3, c4, c5⟩ := cells3 g9
  go_wp2_with fail
  clear c0 c1 c2 c3 c4 c5
  generalize hW : wn.alloc (.cells #[.int .i64 a1, .int .i64 b1, .string s1] 26) = Wg9 at *
  generalize wn.heap.size = xg9 at *
  clear hW
  refine (CM2'.out _ h2).mono ?_
  rintro e wn ⟨Ak, mk, ck, rfl, kr, y3, y4, b⟩
  clear h2
  replace hb := bstep hb b
  replace lr := lr.step b
  replace g9 := g9.below b g9.lt
  clear b
  obtain rfl : L2.length = mk := kr.1
  have b := balloc wn (.cells #[.int .i64 a2, .int .i64 b2, .string s2] 26)
  have g12 := Blk.new wn 26 #[.int .i64 a2, .int .i64 b2, .string s2]
  replace hb := bstep hb b
  replace lr := lr.step b
  replace g9 := g9.below b g9.lt
  replace kr := kr.step b
  clear b
  obtain ⟨c0, c1, c2, c3, c4, c5⟩ := cells3 g9
  obtain ⟨d0, d1, d2, d3, d4, d5⟩ := cells3 g12
  go_wp2_with fail
  clear c0 c1 c2 c3 c4 c5 d0 d1 d2 d3 d4 d5
  generalize hW : wn.alloc (.cells #[.int .i64 a2, .int .i64 b2, .string s2] 26) = Wg12 at *
  generalize wn.heap.size = xg12 at *
  clear hW
  refine (refrank_any (n := K1) lr (Nat.le_refl _) (by omega) (by omega) HL1.out).mono ?_
  rintro e wn ⟨r, rfl, hr, b⟩
  replace hb := bstep hb b
  replace lr := lr.step b
  replace g9 := g9.below b g9.lt
  replace kr := kr.step b
  replace g12 := g12.below b g12.lt
  clear b
  have HR := Lib.hid hr
  clear hr
  obtain ⟨c0, c1, c2, c3, c4, c5⟩ := cells3 g9
  obtain ⟨d0, d1, d2, d3, d4, d5⟩ := cells3 g12
  go_wp2_with fail
  clear c0 c1 c2 c3 c4 c5 d0 d1 d2 d3 d4 d5
  refine (CR1'.out _).mono ?_
  rintro e wn ⟨r2, rfl, hr2, b⟩
  replace hb := bstep hb b
  replace lr := lr.step b
  replace g9 := g9.below b g9.lt
  replace kr := kr.step b
  replace g12 := g12.below b g12.lt
  clear b
  obtain rfl : r = r2 := Rk.unique HR.out hr2
  clear hr2
  obtain ⟨c0, c1, c2, c3, c4, c5⟩ := cells3 g9
  obtain ⟨d0, d1, d2, d3, d4, d5⟩ := cells3 g12
  go_wp2_with fail
  clear c0 c1 c2 c3 c4 c5 d0 d1 d2 d3 d4 d5
  refine (CT'.out _).mono ?_
  rintro e wn ⟨rfl, b⟩
  replace hb := bstep hb b
  replace lr := lr.step b
  replace g9 := g9.below b g9.lt
  replace kr := kr.step b
  replace g12 := g12.below b g12.lt
  clear b
  obtain ⟨c0, c1, c2, c3, c4, c5⟩ := cells3 g9
  obtain ⟨d0, d1, d2, d3, d4, d5⟩ := cells3 g12
  go_wp2_with fail
  clear c0 c1 c2 c3 c4 c5 d0 d1 d2 d3 d4 d5
  refine (CTR'.out _).mono ?_
  rintro e wn ⟨A7, n7, c7, rfl, y5, y6, r7, b⟩
  replace hb := bstep hb b
  replace lr := lr.step b
  replace g9 := g9.below b g9.lt
  replace kr := kr.step b
  replace g12 := g12.below b g12.lt
  clear b
  obtain ⟨c0, c1, c2, c3, c4, c5⟩ := cells3 g9
  obtain ⟨d0, d1, d2, d3, d4, d5⟩ := cells3 g12
  go_wp2_with fail
  clear c0 c1 c2 c3 c4 c5 d0 d1 d2 d3 d4 d5
  refine (refturn_any lr (Nat.le_refl _) HL1.out (by omega) (by omega)).mono ?_
  rintro e wn ⟨A8, n8, c8, rfl, r8, b⟩
  replace hb := bstep hb b
  replace lr := lr.step b
  replace g9 := g9.below b g9.lt
  replace kr := kr.step b
  replace g12 := g12.below b g12.lt
  replace r7 := r7.step b
  clear b
  obtain ⟨c0, c1, c2, c3, c4, c5⟩ := cells3 g9
  obtain ⟨d0, d1, d2, d3, d4, d5⟩ := cells3 g12
  go_wp2_with fail
  clear c0 c1 c2 c3 c4 c5 d0 d1 d2 d3 d4 d5
  refine (refsame7_any r7 r8 (Nat.le_refl _) (Nat.le_refl _) (by omega) ST.out).mono ?_
  rintro e wn ⟨rfl, b⟩
  clear r7 r8
  replace hb := bstep hb b
  replace lr := lr.step b
  replace g9 := g9.below b g9.lt
  replace kr := kr.step b
  replace g12 := g12.below b g12.lt
  clear b
  rw [sameRows_self']
  obtain ⟨c0, c1, c2, c3, c4, c5⟩ := cells3 g9
  obtain ⟨d0, d1, d2, d3, d4, d5⟩ := cells3 g12
  go_wp2_with fail
  clear c0 c1 c2 c3 c4 c5 d0 d1 d2 d3 d4 d5
  refine (CT'.out _).mono ?_
  rintro e wn ⟨rfl, b⟩
  replace hb := bstep hb b
  replace lr := lr.step b
  replace g9 := g9.below b g9.lt
  replace kr := kr.step b
  replace g12 := g12.below b g12.lt
  clear b
  obtain ⟨c0, c1, c2, c3, c4, c5⟩ := cells3 g9
  obtain ⟨d0, d1, d2, d3, d4, d5⟩ := cells3 g12
  go_wp2_with fail
  clear c0 c1 c2 c3 c4 c5 d0 d1 d2 d3 d4 d5
  refine (CTW'.out _).mono ?_
  rintro e wn ⟨rfl, b⟩
  replace hb := bstep hb b
  replace lr := lr.step b
  replace g9 := g9.below b g9.lt
  replace kr := kr.step b
  replace g12 := g12.below b g12.lt
  clear b
  obtain ⟨c0, c1, c2, c3, c4, c5⟩ := cells3 g9
  obtain ⟨d0, d1, d2, d3, d4, d5⟩ := cells3 g12
  go_wp2_with fail
  clear c0 c1 c2 c3 c4 c5 d0 d1 d2 d3 d4 d5
  refine (CT'.out _).mono ?_
  rintro e wn ⟨rfl, b⟩
  replace hb := bstep hb b
  replace lr := lr.step b
  replace g9 := g9.below b g9.lt
  replace kr := kr.step b
  replace g12 := g12.below b g12.lt
  clear b
  obtain ⟨c0, c1, c2, c3, c4, c5⟩ := cells3 g9
  obtain ⟨d0, d1, d2, d3, d4, d5⟩ := cells3 g12
  go_wp2_with fail
  clear c0 c1 c2 c3 c4 c5 d0 d1 d2 d3 d4 d5
  refine (CTH'.out _).mono ?_
  rintro e wn ⟨rfl, b⟩
  replace hb := bstep hb b
  replace lr := lr.step b
  replace g9 := g9.below b g9.lt
  replace kr := kr.step b
  replace g12 := g12.below b g12.lt
  clear b
  obtain ⟨c0, c1, c2, c3, c4, c5⟩ := cells3 g9
  obtain ⟨d0, d1, d2, d3, d4, d5⟩ := cells3 g12
  go_wp2_with fail
  clear c0 c1 c2 c3 c4 c5 d0 d1 d2 d3 d4 d5
  refine (CMU'.out _).mono ?_
  rintro e wn ⟨rfl, b⟩
  replace hb := bstep hb b
  replace lr := lr.step b
  replace g9 := g9.below b g9.lt
  replace kr := kr.step b
  replace g12 := g12.below b g12.lt
  clear b
  have b := balloc wn (.cells #[.int .i64 a4, .int .i64 b4, .string s4] 26)
  have g16 := Blk.new wn 26 #[.int .i64 a4, .int .i64 b4, .string s4]
  replace hb := bstep hb b
  replace lr := lr.step b
  replace g9 := g9.below b g9.lt
  replace kr := kr.step b
  replace g12 := g12.below b g12.lt
  clear b
  obtain ⟨c0, c1, c2, c3, c4, c5⟩ := cells3 g9
  obtain ⟨d0, d1, d2, d3, d4, d5⟩ := cells3 g12
  obtain ⟨i0, i1, i2, i3, i4, i5⟩ := cells3 g16
  go_wp2_with fail
  clear c0 c1 c2 c3 c4 c5 d0 d1 d2 d3 d4 d5 i0 i1 i2 i3 i4 i5
  generalize hW : wn.alloc (.cells #[.int .i64 a4, .int .i64 b4, .string s4] 26) = Wg16 at *
  generalize wn.heap.size = xg16 at *
  clear hW
  refine (CPR'.out _).mono ?_
  rintro e wn ⟨A7, n7, c7, rfl, y5, y6, r7, b⟩
  replace hb := bstep hb b
  replace lr := lr.step b
  replace g9 := g9.below b g9.lt
  replace kr := kr.step b
  replace g12 := g12.below b g12.lt
  replace g16 := g16.below b g16.lt
  clear b
  obtain ⟨c0, c1, c2, c3, c4, c5⟩ := cells3 g9
  obtain ⟨d0, d1, d2, d3, d4, d5⟩ := cells3 g12
  obtain ⟨i0, i1, i2, i3, i4, i5⟩ := cells3 g16
  go_wp2_with fail
  clear c0 c1 c2 c3 c4 c5 d0 d1 d2 d3 d4 d5 i0 i1 i2 i3 i4 i5
  refine (refmul7_any (p := K2) lr kr (Nat.le_refl _) (Nat.le_refl _) HA.out HL2.out (by omega) (by omega) (by omega)).mono ?_
  rintro e wn ⟨A8, n8, c8, rfl, r8, b⟩
  replace hb := bstep hb b
  replace lr := lr.step b
  replace g9 := g9.below b g9.lt
  replace kr := kr.step b
  replace g12 := g12.below b g12.lt
  replace g16 := g16.below b g16.lt
  replace r7 := r7.step b
  clear b
  obtain ⟨c0, c1, c2, c3, c4, c5⟩ := cells3 g9
  obtain ⟨d0, d1, d2, d3, d4, d5⟩ := cells3 g12
  obtain ⟨i0, i1, i2, i3, i4, i5⟩ := cells3 g16
  go_wp2_with fail
  clear c0 c1 c2 c3 c4 c5 d0 d1 d2 d3 d4 d5 i0 i1 i2 i3 i4 i5
  refine (refsame7_any r7 r8 (Nat.le_refl _) (Nat.le_refl _) (by omega) SP.out).mono ?_
  rintro e wn ⟨rfl, b⟩
  clear r7 r8
  replace hb := bstep hb b
  replace lr := lr.step b
  replace g9 := g9.below b g9.lt
  replace kr := kr.step b
  replace g12 := g12.below b g12.lt
  replace g16 := g16.below b g16.lt
  clear b
  rw [sameRows_self']
  obtain ⟨c0, c1, c2, c3, c4, c5⟩ := cells3 g9
  obtain ⟨d0, d1, d2, d3, d4, d5⟩ := cells3 g12
  obtain ⟨i0, i1, i2, i3, i4, i5⟩ := cells3 g16
  go_wp2_with fail
  clear c0 c1 c2 c3 c4 c5 d0 d1 d2 d3 d4 d5 i0 i1 i2 i3 i4 i5
  refine (CPW'.out _).mono ?_
  rintro e wn ⟨rfl, b⟩
  replace hb := bstep hb b
  replace lr := lr.step b
  replace g9 := g9.below b g9.lt
  replace kr := kr.step b
  replace g12 := g12.below b g12.lt
  replace g16 := g16.below b g16.lt
  clear b
  obtain ⟨c0, c1, c2, c3, c4, c5⟩ := cells3 g9
  obtain ⟨d0, d1, d2, d3, d4, d5⟩ := cells3 g12
  obtain ⟨i0, i1, i2, i3, i4, i5⟩ := cells3 g16
  go_wp2_with fail
  clear c0 c1 c2 c3 c4 c5 d0 d1 d2 d3 d4 d5 i0 i1 i2 i3 i4 i5
  refine (CI'.out _).mono ?_
  rintro e wn ⟨hcase, b⟩
  replace hb := bstep hb b
  replace lr := lr.step b
  replace g9 := g9.below b g9.lt
  replace kr := kr.step b
  replace g12 := g12.below b g12.lt
  replace g16 := g16.below b g16.lt
  clear b
  rcases hcase with ⟨rfl, hlt⟩ | ⟨D, rfl, hD⟩
  · have t3 : r < K1 := hlt r HR.out
    clear hlt
    simp only [gv_zero]
    have b := balloc wn (.cells #[.int .i64 0, .int .i64 0, .string { data := #[] }] 26)
    have g18 := Blk.new wn 26 #[.int .i64 0, .int .i64 0, .string { data := #[] }]
    replace hb := bstep hb b
    replace lr := lr.step b
    replace g9 := g9.below b g9.lt
    replace kr := kr.step b
    replace g12 := g12.below b g12.lt
    replace g16 := g16.below b g16.lt
    clear b
    obtain ⟨c0, c1, c2, c3, c4, c5⟩ := cells3 g9
    obtain ⟨d0, d1, d2, d3, d4, d5⟩ := cells3 g12
    obtain ⟨i0, i1, i2, i3, i4, i5⟩ := cells3 g16
    obtain ⟨j0, j1, j2, j3, j4, j5⟩ := cells3 g18
    go_wp2_with fail
    clear c0 c1 c2 c3 c4 c5 d0 d1 d2 d3 d4 d5 i0 i1 i2 i3 i4 i5 j0 j1 j2 j3 j4 j5
    generalize hW : wn.alloc (.cells #[.int .i64 0, .int .i64 0, .string { data := #[] }] 26) = Wg18 at *
    generalize wn.heap.size = xg18 at *
    clear hW
    refine ((show Calls Try.prog 18 #[gv 0 []] _ _ from gheight_any 0 [] _)).mono ?_
    rintro e wn ⟨rfl, b⟩
    replace hb := bstep hb b
    replace lr := lr.step b
    replace g9 := g9.below b g9.lt
    replace kr := kr.step b
    replace g12 := g12.below b g12.lt
    replace g16 := g16.below b g16.lt
    replace g18 := g18.below b g18.lt
    clear b
    obtain ⟨c0, c1, c2, c3, c4, c5⟩ := cells3 g9
    obtain ⟨d0, d1, d2, d3, d4, d5⟩ := cells3 g12
    obtain ⟨i0, i1, i2, i3, i4, i5⟩ := cells3 g16
    obtain ⟨j0, j1, j2, j3, j4, j5⟩ := cells3 g18
    go_wp2_with fail
    clear c0 c1 c2 c3 c4 c5 d0 d1 d2 d3 d4 d5 i0 i1 i2 i3 i4 i5 j0 j1 j2 j3 j4 j5
    go_ret
    exact ⟨rfl, hb⟩
  · have t3 : ¬ r < K1 := by have := inv_rank hD HL1.out HI.out HR.out; omega
    have OKD : GridOk K1 D := ⟨hD.2.1, by omega, by rw [hD.1]; omega, by rw [hD.1]; exact Nat.le_trans (Nat.mul_le_mul q5 q5) (by omega)⟩
    have CD := fun W => gmul_ok (w := W) HOK1.out OKD hD.1.symm (by rw [HI.out]; exact Nat.le_trans (Nat.mul_le_mul q5 q5) (by omega))
    rw [inv_mul_right hD HL1.out HI.out] at CD
    have CS := fun W => gsame_any K1 K1 (unitG K1) (unitG K1) W
    rw [sameG_self'] at CS
    have CU := CU'.out
    obtain ⟨a5, b5, s5, g5⟩ := gv_parts K1 D
    obtain ⟨a6, b6, s6, g6⟩ := gv_parts K1 (unitG K1)
    simp only [g1, g5, g6] at CD
    simp only [g6] at CS CU
    rw [g5]
    have CD' := Lib.hid CD
    have CS' := Lib.hid CS
    have CU2 := Lib.hid CU
    clear CD CS CU hD OKD g5 g6
    have b := balloc wn (.cells #[.int .i64 a5, .int .i64 b5, .string s5] 26)
    have g18 := Blk.new wn 26 #[.int .i64 a5, .int .i64 b5, .string s5]
    replace hb := bstep hb b
    replace lr := lr.step b
    replace g9 := g9.below b g9.lt
    replace kr := kr.step b
    replace g12 := g12.below b g12.lt
    replace g16 := g16.below b g16.lt
    clear b
    obtain ⟨c0, c1, c2, c3, c4, c5⟩ := cells3 g9
    obtain ⟨d0, d1, d2, d3, d4, d5⟩ := cells3 g12
    obtain ⟨i0, i1, i2, i3, i4, i5⟩ := cells3 g16
    obtain ⟨j0, j1, j2, j3, j4, j5⟩ := cells3 g18
    go_wp2_with fail
    clear c0 c1 c2 c3 c4 c5 d0 d1 d2 d3 d4 d5 i0 i1 i2 i3 i4 i5 j0 j1 j2 j3 j4 j5
    generalize hW : wn.alloc (.cells #[.int .i64 a5, .int .i64 b5, .string s5] 26) = Wg18 at *
    generalize wn.heap.size = xg18 at *
    clear hW
    refine (CD'.out _).mono ?_
    rintro e wn ⟨rfl, b⟩
    replace hb := bstep hb b
    replace lr := lr.step b
    replace g9 := g9.below b g9.lt
    replace kr := kr.step b
    replace g12 := g12.below b g12.lt
    replace g16 := g16.below b g16.lt
    replace g18 := g18.below b g18.lt
    clear b
    have b := balloc wn (.cells #[.int .i64 a6, .int .i64 b6, .string s6] 26)
    have g20 := Blk.new wn 26 #[.int .i64 a6, .int .i64 b6, .string s6]
    replace hb := bstep hb b
    replace lr := lr.step b
    replace g9 := g9.below b g9.lt
    replace kr := kr.step b
    replace g12 := g12.below b g12.lt
    replace g16 := g16.below b g16.lt
    replace g18 := g18.below b g18.lt
    clear b
    obtain ⟨c0, c1, c2, c3, c4, c5⟩ := cells3 g9
    obtain ⟨d0, d1, d2, d3, d4, d5⟩ := cells3 g12
    obtain ⟨i0, i1, i2, i3, i4, i5⟩ := cells3 g16
    obtain ⟨j0, j1, j2, j3, j4, j5⟩ := cells3 g18
    obtain ⟨m0, m1, m2, m3, m4, m5⟩ := cells3 g20
    go_wp2_with fail
    clear c0 c1 c2 c3 c4 c5 d0 d1 d2 d3 d4 d5 i0 i1 i2 i3 i4 i5 j0 j1 j2 j3 j4 j5 m0 m1 m2 m3 m4 m5
    generalize hW : wn.alloc (.cells #[.int .i64 a6, .int .i64 b6, .string s6] 26) = Wg20 at *
    generalize wn.heap.size = xg20 at *
    clear hW
    refine (CU2.out _).mono ?_
    rintro e wn ⟨rfl, b⟩
    replace hb := bstep hb b
    replace lr := lr.step b
    replace g9 := g9.below b g9.lt
    replace kr := kr.step b
    replace g12 := g12.below b g12.lt
    replace g16 := g16.below b g16.lt
    replace g18 := g18.below b g18.lt
    replace g20 := g20.below b g20.lt
    clear b
    have b := balloc wn (.cells #[.int .i64 a6, .int .i64 b6, .string s6] 26)
    have g22 := Blk.new wn 26 #[.int .i64 a6, .int .i64 b6, .string s6]
    replace hb := bstep hb b
    replace lr := lr.step b
    replace g9 := g9.below b g9.lt
    replace kr := kr.step b
    replace g12 := g12.below b g12.lt
    replace g16 := g16.below b g16.lt
    replace g18 := g18.below b g18.lt
    replace g20 := g20.below b g20.lt
    clear b
    obtain ⟨c0, c1, c2, c3, c4, c5⟩ := cells3 g9
    obtain ⟨d0, d1, d2, d3, d4, d5⟩ := cells3 g12
    obtain ⟨i0, i1, i2, i3, i4, i5⟩ := cells3 g16
    obtain ⟨j0, j1, j2, j3, j4, j5⟩ := cells3 g18
    obtain ⟨m0, m1, m2, m3, m4, m5⟩ := cells3 g20
    obtain ⟨n0, n1, n2, n3, n4, n5⟩ := cells3 g22
    go_wp2_with fail
    clear c0 c1 c2 c3 c4 c5 d0 d1 d2 d3 d4 d5 i0 i1 i2 i3 i4 i5 j0 j1 j2 j3 j4 j5 m0 m1 m2 m3 m4 m5 n0 n1 n2 n3 n4 n5
    generalize hW : wn.alloc (.cells #[.int .i64 a6, .int .i64 b6, .string s6] 26) = Wg22 at *
    generalize wn.heap.size = xg22 at *
    clear hW
    refine (CS'.out _).mono ?_
    rintro e wn ⟨rfl, b⟩
    replace hb := bstep hb b
    replace lr := lr.step b
    replace g9 := g9.below b g9.lt
    replace kr := kr.step b
    replace g12 := g12.below b g12.lt
    replace g16 := g16.below b g16.lt
    replace g18 := g18.below b g18.lt
    replace g20 := g20.below b g20.lt
    replace g22 := g22.below b g22.lt
    clear b
    obtain ⟨c0, c1, c2, c3, c4, c5⟩ := cells3 g9
    obtain ⟨d0, d1, d2, d3, d4, d5⟩ := cells3 g12
    obtain ⟨i0, i1, i2, i3, i4, i5⟩ := cells3 g16
    obtain ⟨j0, j1, j2, j3, j4, j5⟩ := cells3 g18
    obtain ⟨m0, m1, m2, m3, m4, m5⟩ := cells3 g20
    obtain ⟨n0, n1, n2, n3, n4, n5⟩ := cells3 g22
    go_wp2_with fail
    clear c0 c1 c2 c3 c4 c5 d0 d1 d2 d3 d4 d5 i0 i1 i2 i3 i4 i5 j0 j1 j2 j3 j4 j5 m0 m1 m2 m3 m4 m5 n0 n1 n2 n3 n4 n5
    go_ret
    exact ⟨rfl, hb⟩
theorem reckons_walk (u1 : UInt8) (A1 : Option Addr) (n1 c1 : Nat) (rows : List (List UInt8)) (u2 : UInt8) (A2 : Option Addr) (n2 c2 : Nat) (more : List (List UInt8)) (w : World) (h1 : Rds w w.heap.size A1 n1 rows) (z1 : n1 ≤ c1 ∧ c1 ≤ maxLen) (h2 : Rds w w.heap.size A2 n2 more) (z2 : n2 ≤ c2 ∧ c2 ≤ maxLen) :
    Calls Try.prog 3 #[.int .u8 (bv u1), .slice A1 n1 c1, .int .u8 (bv u2), .slice A2 n2 c2] w fun e w' => e = .returned (.bool true) ∧ Below w.heap.size w w' := by
  cases hf1 : few7B rows
  · exact reckons_few u1 u2 A1 A2 n1 c1 n2 c2 rows more w h1 h2 z1 z2 hf1
  · cases hf2 : few7B more
    · exact reckons_few2 u1 u2 A1 A2 n1 c1 n2 c2 rows more w h1 h2 z1 z2 hf1 hf2
    · by_cases hM : u1.toNat % 31 = (madeL (u2.toNat % 31) more).length
      · by_cases hI : (madeL (u1.toNat % 31) rows).length = u1.toNat % 31
        · exact reckons_OQ u1 u2 A1 A2 n1 c1 n2 c2 rows more w h1 h2 z1 z2 hf1 hf2 hM hI
        · exact reckons_OS u1 u2 A1 A2 n1 c1 n2 c2 rows more w h1 h2 z1 z2 hf1 hf2 hM (Ne.symm hI)
      · by_cases hI : (madeL (u1.toNat % 31) rows).length = u1.toNat % 31
        · exact reckons_EQ u1 u2 A1 A2 n1 c1 n2 c2 rows more w h1 h2 z1 z2 hf1 hf2 hM hI
        · exact reckons_ES u1 u2 A1 A2 n1 c1 n2 c2 rows more w h1 h2 z1 z2 hf1 hf2 hM (Ne.symm hI)
end Go.Proofs.Ytilelmejpbnbnaa
