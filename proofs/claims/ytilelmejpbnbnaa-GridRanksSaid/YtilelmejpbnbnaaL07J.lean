import Derived.Test.YtilelmejpbnbnaaL07G
import Derived.Deep.RegionWith
/- GridRanks: its walk. -/
namespace Go.Proofs.Ytilelmejpbnbnaa
open Go.RowKit
set_option linter.unusedVariables false
set_option maxRecDepth 100000
set_option maxHeartbeats 4000000
set_option linter.unusedSimpArgs false

theorem ranks_OS (u1 u2 : UInt8) (A1 A2 : Option Addr) (n1 c1 n2 c2 : Nat) (rows more : List (List UInt8)) (w : World) (h1 : Rds w w.heap.size A1 n1 rows) (h2 : Rds w w.heap.size A2 n2 more) (z1 : n1 ≤ c1 ∧ c1 ≤ maxLen) (z2 : n2 ≤ c2 ∧ c2 ≤ maxLen) (hf1 : few7B rows = true) (hf2 : few7B more = true) (hM : u1.toNat % 31 = (madeL (u2.toNat % 31) more).length) (hI : u1.toNat % 31 ≠ (madeL (u1.toNat % 31) rows).length) :
    Calls Try.prog 4 #[.int .u8 (bv u1), .slice A1 n1 c1, .int .u8 (bv u2), .slice A2 n2 c2] w fun e w' => e = .returned (.bool true) ∧ Below w.heap.size w w' := by
  unfold maxLen at z1 z2
  obtain ⟨z3, z4⟩ := z1
  obtain ⟨z5, z6⟩ := z2
  have HF1 := Lib.hid hf1
  have HF2 := Lib.hid hf2
  have q1 := few7_len hf1
  have q2 := few7_len hf2
  have q3 : n1 ≤ 30 := by have := h1.1; omega
  have q4 : n2 ≤ 30 := by have := h2.1; omega
  have q5 : u1.toNat % 31 ≤ 30 := by have := Nat.mod_lt u1.toNat (show 31 > 0 by omega); omega
  have q6 : u2.toNat % 31 ≤ 30 := by have := Nat.mod_lt u2.toNat (show 31 > 0 by omega); omega
  have CM1 := fun W (h : Rds W W.heap.size A1 n1 rows) => made_any (u := u1) (c := c1) h (Nat.le_refl _) q3
  have CM2 := fun W (h : Rds W W.heap.size A2 n2 more) => made_any (u := u2) (c := c2) h (Nat.le_refl _) q4
  have OK1 := made_ok q5 q1
  have OK2 := made_ok q6 q2
  have q7 : (madeL (u1.toNat % 31) rows).length ≤ 30 := by rw [made_len]; exact q1
  have q8 : (madeL (u2.toNat % 31) more).length ≤ 30 := by rw [made_len]; exact q2
  unfold MadeEnds at CM1 CM2
  clear hf1 hf2 q1 q2 q3 q4
  generalize madeL (u1.toNat % 31) rows = L1 at *
  generalize u1.toNat % 31 = K1 at *
  generalize madeL (u2.toNat % 31) more = L2 at *
  generalize u2.toNat % 31 = K2 at *
  have CR1 := fun W => grank_any (w := W) OK1
  have CT := fun W => gturned_any (w := W) OK1
  have OKT := turnL_ok OK1
  have HL1 := Lib.hid OK1.1
  have HOK1 := Lib.hid OK1
  obtain ⟨a1, b1, s1, g1⟩ := gv_parts K1 L1
  obtain ⟨a2, b2, s2, g2⟩ := gv_parts K2 L2
  obtain ⟨a3, b3, s3, g3⟩ := gv_parts L1.length (turnL K1 L1)
  have q9 : L1.length * K2 ≤ 30 * 30 := Nat.mul_le_mul q7 q6
  have CMU := fun W => gmul_ok (w := W) OK1 OK2 hM (by omega)
  have OKP : GridOk K2 (mulL L1 L2 K2) := ⟨mulL_lenB _ _ _, by omega, by rw [mulL_len]; omega, by rw [mulL_len]; omega⟩
  have HL2 := Lib.hid OK2.1
  have t1 : ((K1 : Int) != (L2.length : Int)) = false := by rw [bne_eq_false_iff_eq]; omega
  obtain ⟨a4, b4, s4, g4⟩ := gv_parts K2 (mulL L1 L2 K2)
  clear q9
  have OKO := Lib.hid OK2.1
  have CI := fun W => ginv_size (k := K1) (rows := L1) (w := W) hI
  have t2 : ((K1 : Int) != (L1.length : Int)) = true := by rw [bne_iff_ne]; omega
  have t2' : ((K1 : Int) == (L1.length : Int)) = false := by rw [beq_eq_false_iff_ne]; omega
  have CRT := fun W => grank_any (w := W) OKT
  have CTT := fun W => gturned_any (w := W) OKT
  rw [turn_turn OK1.1, turnL_len] at CTT
  have CS1 := fun W => gsame_any K1 K1 L1 L1 W
  rw [sameG_self'] at CS1
  have CRP := fun W => grank_any (w := W) OKP
  have CRO := fun W => grank_any (w := W) OK2
  simp only [g1, g2, g3, gv_zero, g4] at CM1
  simp only [g1, g2, g3, gv_zero, g4] at CM2
  simp only [g1, g2, g3, gv_zero, g4] at CR1
  simp only [g1, g2, g3, gv_zero, g4] at CT
  simp only [g1, g2, g3, gv_zero, g4] at CMU
  simp only [g1, g2, g3, gv_zero, g4] at CI
  simp only [g1, g2, g3, gv_zero, g4] at CRT
  simp only [g1, g2, g3, gv_zero, g4] at CTT
  simp only [g1, g2, g3, gv_zero, g4] at CS1
  simp only [g1, g2, g3, gv_zero, g4] at CRP
  simp only [g1, g2, g3, gv_zero, g4] at CRO
  have CM1' := Lib.hid CM1
  have CM2' := Lib.hid CM2
  have CR1' := Lib.hid CR1
  have CT' := Lib.hid CT
  have CMU' := Lib.hid CMU
  have CI' := Lib.hid CI
  have CRT' := Lib.hid CRT
  have CTT' := Lib.hid CTT
  have CS1' := Lib.hid CS1
  have CRP' := Lib.hid CRP
  have CRO' := Lib.hid CRO
  have HM := Lib.hid hM
  clear CM1 CM2 CR1 CT CMU CI CRT CTT CS1 CRP CRO hM hI OK1 OK2 OKT OKP
  go_enter Try.func4, Try.ntmps4
  go_wp2_with fail
  refine (awake7 _).mono ?_
  rintro e w1 ⟨rfl, hb⟩
  replace h1 := h1.step hb
  replace h2 := h2.step hb
  go_wp2_with fail
  refine (few7_any h1 (by omega)).mono ?_
  rintro e w' ⟨rfl, rfl⟩
  rw [HF1.out]
  go_wp2_with fail
  refine (few7_any h2 (by omega)).mono ?_
  rintro e w' ⟨rfl, rfl⟩
  rw [HF2.out]
  go_wp2_with fail
  refine (CM1'.out _ h1).mono ?_
  rintro e wn ⟨Al, ml, cl, rfl, lr, y1, y2, lcap, b⟩
  replace hb := bstep hb b
  replace h2 := h2.step b
  clear b
  obtain rfl : L1.length = ml := lr.1
  clear h1
  have b := balloc wn (.cells #[.int .i64 a1, .int .i64 b1, .string s1] 26)
  have g9 := Blk.new wn 26 #[.int .i64 a1, .int .i64 b1, .string s1]
  replace hb := bstep hb b
  replace h2 := h2.step b
  replace lr := lr.step b
  replace lcap := lcap.step b
  clear b
  obtain ⟨c0, c1, c2, c3, c4, c5⟩ := cells3 g9
  go_wp2_with fail
  clear c0 c1 c2 c3 c4 c5
  generalize hW : wn.alloc (.cells #[.int .i64 a1, .int .i64 b1, .string s1] 26) = Wg9 at *
  generalize wn.heap.size = xg9 at *
  clear hW
  refine (CM2'.out _ h2).mono ?_
  rintro e wn ⟨Ak, mk, ck, rfl, kr, y3, y4, _, b⟩
  clear h2
  replace hb := bstep hb b
  replace lr := lr.step b
  replace lcap := lcap.step b
  replace g9 := g9.below b g9.lt
  clear b
  obtain rfl : L2.length = mk := kr.1
  clear kr
  have b := balloc wn (.cells #[.int .i64 a2, .int .i64 b2, .string s2] 26)
  have g12 := Blk.new wn 26 #[.int .i64 a2, .int .i64 b2, .string s2]
  replace hb := bstep hb b
  replace lr := lr.step b
  replace lcap := lcap.step b
  replace g9 := g9.below b g9.lt
  clear b
  obtain ⟨c0, c1, c2, c3, c4, c5⟩ := cells3 g9
  obtain ⟨d0, d1, d2, d3, d4, d5⟩ := cells3 g12
  go_wp2_with fail
  clear c0 c1 c2 c3 c4 c5 d0 d1 d2 d3 d4 d5
  generalize hW : wn.alloc (.cells #[.int .i64 a2, .int .i64 b2, .string s2] 26) = Wg12 at *
  generalize wn.heap.size = xg12 at *
  clear hW
  refine (CR1'.out _).mono ?_
  rintro e wn ⟨r, rfl, hr, b⟩
  replace hb := bstep hb b
  replace lr := lr.step b
  replace lcap := lcap.step b
  replace g9 := g9.below b g9.lt
  replace g12 := g12.below b g12.lt
  clear b
  have HR := Lib.hid hr
  clear hr
  have v1 := (rk_wide HL1.out HR.out).1
  have v2 := (rk_wide HL1.out HR.out).2
  have v3 : decide (K1 < r) = false := by simp; omega
  have v4 : decide (L1.length < r) = false := by simp; omega
  obtain ⟨c0, c1, c2, c3, c4, c5⟩ := cells3 g9
  obtain ⟨d0, d1, d2, d3, d4, d5⟩ := cells3 g12
  have HS : Hid (∀ w', Below wn.heap.size wn w' → (Below wn.heap.size wn w' ∧ w'.cell? ⟨xg9, 0, none⟩ = some (.int .i64 a1) ∧ w'.cell? ⟨xg9, 1, none⟩ = some (.int .i64 b1) ∧ w'.cell? ⟨xg9, 2, none⟩ = some (.string s1))) := Lib.hid fun w' hb' => by
    obtain ⟨k0, k1, k2, _, _, _⟩ := cells3 (g9.below hb' g9.lt)
    exact ⟨hb', k0, k1, k2⟩
  go_wp2_with fail
  clear c0 c1 c2 c3 c4 c5 d0 d1 d2 d3 d4 d5
  refine wp_region_noPanic ?_
  refine wp_region_held_drew (S := fun w' => Below wn.heap.size wn w' ∧ w'.cell? ⟨xg9, 0, none⟩ = some (.int .i64 a1) ∧ w'.cell? ⟨xg9, 1, none⟩ = some (.int .i64 b1) ∧ w'.cell? ⟨xg9, 2, none⟩ = some (.string s1)) (by kernel_rfl) (HS.out _ (Below.refl _ _).drew) (fun hHeld => ?_)
  refine wpAnyH_take (i := 0) (v := .int .i64 (r : Int)) rfl (by kernel_rfl) (by kernel_rfl) (by kernel_rfl) (fun _ _ _ h => h) (Or.inl ⟨by rfl, fun w hSw => by (try dsimp only at hSw); go_simp⟩) (by assumption) ?_
  try simp only [Act.put, List.getElem_toArray, List.getElem_cons_succ, List.getElem_cons_zero, List.setIfInBounds_toArray, List.set_cons_zero, List.set_cons_succ]
  refine wpAnyH_take (i := 1) (v := (.agg #[.int .i64 a1, .int .i64 b1, .string s1])) rfl (by kernel_rfl) (by kernel_rfl) (by kernel_rfl) (fun _ _ _ h => h) (Or.inl ⟨by rfl, fun w hSw => by (try dsimp only at hSw); go_simp⟩) (by assumption) ?_
  try simp only [Act.put, List.getElem_toArray, List.getElem_cons_succ, List.getElem_cons_zero, List.setIfInBounds_toArray, List.set_cons_zero, List.set_cons_succ]
  refine wpAnyH_ready (rs := [2]) (by kernel_rfl) (by simp) ?_
  refine AllReadyH.cons rfl (fun K hK => ?_) AllReadyH.nil
  go_simp
  refine (CT'.out _).mono ?_
  rintro e x1 ⟨rfl, e1⟩
  have mm := bstep hHeld.1 e1
  simp only []
  refine hK.out _ _ (HS.out _ mm) (fun hHeld => ?_)
  clear hK K
  try simp only [Act.put, List.getElem_toArray, List.getElem_cons_succ, List.getElem_cons_zero, List.setIfInBounds_toArray, List.set_cons_zero, List.set_cons_succ]
  refine wpAnyH_ready (rs := [3]) (by kernel_rfl) (by simp) ?_
  refine AllReadyH.cons rfl (fun K hK => ?_) AllReadyH.nil
  go_simp
  refine (CRT'.out _).mono ?_
  rintro e x2 ⟨rt, rfl, hrt, e2⟩
  have mm := bstep hHeld.1 e2
  obtain rfl : r = rt := (turn_rank HL1.out HR.out hrt).symm
  simp only []
  refine hK.out _ _ (HS.out _ mm) (fun hHeld => ?_)
  clear hK K
  try simp only [Act.put, List.getElem_toArray, List.getElem_cons_succ, List.getElem_cons_zero, List.setIfInBounds_toArray, List.set_cons_zero, List.set_cons_succ]
  refine wpAnyH_take (i := 4) (v := .bool false) rfl (by kernel_rfl) (by kernel_rfl) (by kernel_rfl) (fun _ _ _ h => h) (Or.inl ⟨by rfl, fun w hSw => by (try dsimp only at hSw); go_simp⟩) (by assumption) ?_
  try simp only [Act.put, List.getElem_toArray, List.getElem_cons_succ, List.getElem_cons_zero, List.setIfInBounds_toArray, List.set_cons_zero, List.set_cons_succ]
  refine wpAnyH_take (i := 5) (v := .bool false) rfl (by kernel_rfl) (by kernel_rfl) (by kernel_rfl) (fun _ _ _ h => h) (Or.inl ⟨by rfl, fun w hSw => by (try dsimp only at hSw); go_simp⟩) (by assumption) ?_
  try simp only [Act.put, List.getElem_toArray, List.getElem_cons_succ, List.getElem_cons_zero, List.setIfInBounds_toArray, List.set_cons_zero, List.set_cons_succ]
  refine wpAnyH_take (i := 6) (v := .int .i64 (r : Int)) rfl (by kernel_rfl) (by kernel_rfl) (by kernel_rfl) (fun _ _ _ h => h) (Or.inl ⟨by rfl, fun w hSw => by (try dsimp only at hSw); go_simp⟩) (by assumption) ?_
  try simp only [Act.put, List.getElem_toArray, List.getElem_cons_succ, List.getElem_cons_zero, List.setIfInBounds_toArray, List.set_cons_zero, List.set_cons_succ]
  refine wpAnyH_take (i := 7) (v := .int .i64 (K1 : Int)) rfl (by kernel_rfl) (by kernel_rfl) (by kernel_rfl) (fun _ _ _ h => h) (Or.inl ⟨by rfl, fun w hSw => by (try dsimp only at hSw); go_simp⟩) (by assumption) ?_
  try simp only [Act.put, List.getElem_toArray, List.getElem_cons_succ, List.getElem_cons_zero, List.setIfInBounds_toArray, List.set_cons_zero, List.set_cons_succ]
  refine wpAnyH_take (i := 8) (v := .bool false) rfl (by kernel_rfl) (by kernel_rfl) (by kernel_rfl) (fun _ _ _ h => h) (Or.inl ⟨by rfl, fun w hSw => by (try dsimp only at hSw); go_simp⟩) (by assumption) ?_
  try simp only [Act.put, List.getElem_toArray, List.getElem_cons_succ, List.getElem_cons_zero, List.setIfInBounds_toArray, List.set_cons_zero, List.set_cons_succ]
  refine wpAnyH_take (i := 9) (v := .bool false) rfl (by kernel_rfl) (by kernel_rfl) (by kernel_rfl) (fun _ _ _ h => h) (Or.inl ⟨by rfl, fun w hSw => by (try dsimp only at hSw); go_simp⟩) (by assumption) ?_
  try simp only [Act.put, List.getElem_toArray, List.getElem_cons_succ, List.getElem_cons_zero, List.setIfInBounds_toArray, List.set_cons_zero, List.set_cons_succ]
  refine wpAnyH_take (i := 10) (v := .bool false) rfl (by kernel_rfl) (by kernel_rfl) (by kernel_rfl) (fun _ _ _ h => h) (Or.inl ⟨by rfl, fun w hSw => by (try dsimp only at hSw); go_simp⟩) (by assumption) ?_
  try simp only [Act.put, List.getElem_toArray, List.getElem_cons_succ, List.getElem_cons_zero, List.setIfInBounds_toArray, List.set_cons_zero, List.set_cons_succ]
  refine wpAnyH_take (i := 11) (v := .int .i64 (r : Int)) rfl (by kernel_rfl) (by kernel_rfl) (by kernel_rfl) (fun _ _ _ h => h) (Or.inl ⟨by rfl, fun w hSw => by (try dsimp only at hSw); go_simp⟩) (by assumption) ?_
  try simp only [Act.put, List.getElem_toArray, List.getElem_cons_succ, List.getElem_cons_zero, List.setIfInBounds_toArray, List.set_cons_zero, List.set_cons_succ]
  refine wpAnyH_take (i := 12) (v := (.slice Al L1.length cl)) rfl (by kernel_rfl) (by kernel_rfl) (by kernel_rfl) (fun _ _ _ h => h) (Or.inl ⟨by rfl, fun w hSw => by (try dsimp only at hSw); go_simp⟩) (by assumption) ?_
  try simp only [Act.put, List.getElem_toArray, List.getElem_cons_succ, List.getElem_cons_zero, List.setIfInBounds_toArray, List.set_cons_zero, List.set_cons_succ]
  refine wpAnyH_ready (rs := [13]) (by kernel_rfl) (by simp) ?_
  refine AllReadyH.cons rfl (fun K hK => ?_) AllReadyH.nil
  go_simp
  refine hK.out _ _ hHeld (fun hHeld => ?_)
  clear hK K
  try simp only [Act.put, List.getElem_toArray, List.getElem_cons_succ, List.getElem_cons_zero, List.setIfInBounds_toArray, List.set_cons_zero, List.set_cons_succ]
  refine wpAnyH_take (i := 14) (v := .bool false) rfl (by kernel_rfl) (by kernel_rfl) (by kernel_rfl) (fun _ _ _ h => h) (Or.inl ⟨by rfl, fun w hSw => by (try dsimp only at hSw); go_simp⟩) (by assumption) ?_
  try simp only [Act.put, List.getElem_toArray, List.getElem_cons_succ, List.getElem_cons_zero, List.setIfInBounds_toArray, List.set_cons_zero, List.set_cons_succ]
  refine wpAnyH_take (i := 15) (v := .bool false) rfl (by kernel_rfl) (by kernel_rfl) (by kernel_rfl) (fun _ _ _ h => h) (Or.inl ⟨by rfl, fun w hSw => by (try dsimp only at hSw); go_simp⟩) (by assumption) ?_
  try simp only [Act.put, List.getElem_toArray, List.getElem_cons_succ, List.getElem_cons_zero, List.setIfInBounds_toArray, List.set_cons_zero, List.set_cons_succ]
  refine wpAnyH_take (i := 16) (v := .bool false) rfl (by kernel_rfl) (by kernel_rfl) (by kernel_rfl) (fun _ _ _ h => h) (Or.inl ⟨by rfl, fun w hSw => by (try dsimp only at hSw); go_simp⟩) (by assumption) ?_
  try simp only [Act.put, List.getElem_toArray, List.getElem_cons_succ, List.getElem_cons_zero, List.setIfInBounds_toArray, List.set_cons_zero, List.set_cons_succ]
  refine wpAnyH_take (i := 17) (v := (.agg #[.int .i64 a1, .int .i64 b1, .string s1])) rfl (by kernel_rfl) (by kernel_rfl) (by kernel_rfl) (fun _ _ _ h => h) (Or.inl ⟨by rfl, fun w hSw => by (try dsimp only at hSw); go_simp⟩) (by assumption) ?_
  try simp only [Act.put, List.getElem_toArray, List.getElem_cons_succ, List.getElem_cons_zero, List.setIfInBounds_toArray, List.set_cons_zero, List.set_cons_succ]
  refine wpAnyH_take (i := 20) (v := (.agg #[.int .i64 a1, .int .i64 b1, .string s1])) rfl (by kernel_rfl) (by kernel_rfl) (by kernel_rfl) (fun _ _ _ h => h) (Or.inl ⟨by rfl, fun w hSw => by (try dsimp only at hSw); go_simp⟩) (by assumption) ?_
  try simp only [Act.put, List.getElem_toArray, List.getElem_cons_succ, List.getElem_cons_zero, List.setIfInBounds_toArray, List.set_cons_zero, List.set_cons_succ]
  refine wpAnyH_ready (rs := [18]) (by kernel_rfl) (by simp) ?_
  refine AllReadyH.cons rfl (fun K hK => ?_) AllReadyH.nil
  go_simp
  refine (CT'.out _).mono ?_
  rintro e x3 ⟨rfl, e3⟩
  have mm := bstep hHeld.1 e3
  simp only []
  refine hK.out _ _ (HS.out _ mm) (fun hHeld => ?_)
  clear hK K
  try simp only [Act.put, List.getElem_toArray, List.getElem_cons_succ, List.getElem_cons_zero, List.setIfInBounds_toArray, List.set_cons_zero, List.set_cons_succ]
  refine wpAnyH_ready (rs := [19]) (by kernel_rfl) (by simp) ?_
  refine AllReadyH.cons rfl (fun K hK => ?_) AllReadyH.nil
  go_simp
  refine (CTT'.out _).mono ?_
  rintro e x4 ⟨rfl, e4⟩
  have mm := bstep hHeld.1 e4
  simp only []
  refine hK.out _ _ (HS.out _ mm) (fun hHeld => ?_)
  clear hK K
  try simp only [Act.put, List.getElem_toArray, List.getElem_cons_succ, List.getElem_cons_zero, List.setIfInBounds_toArray, List.set_cons_zero, List.set_cons_succ]
  refine wpAnyH_ready (rs := [21]) (by kernel_rfl) (by simp) ?_
  refine AllReadyH.cons rfl (fun K hK => ?_) AllReadyH.nil
  go_simp
  refine (CS1'.out _).mono ?_
  rintro e x5 ⟨rfl, e5⟩
  have mm := bstep hHeld.1 e5
  simp only []
  refine hK.out _ _ (HS.out _ mm) (fun hHeld => ?_)
  clear hK K
  try simp only [Act.put, List.getElem_toArray, List.getElem_cons_succ, List.getElem_cons_zero, List.setIfInBounds_toArray, List.set_cons_zero, List.set_cons_succ]
  refine wpAnyH_take (i := 22) (v := .bool false) rfl (by kernel_rfl) (by kernel_rfl) (by kernel_rfl) (fun _ _ _ h => h) (Or.inl ⟨by rfl, fun w hSw => by (try dsimp only at hSw); go_simp⟩) (by assumption) ?_
  try simp only [Act.put, List.getElem_toArray, List.getElem_cons_succ, List.getElem_cons_zero, List.setIfInBounds_toArray, List.set_cons_zero, List.set_cons_succ]
  refine wpAnyH_take (i := 23) (v := .bool false) rfl (by kernel_rfl) (by kernel_rfl) (by kernel_rfl) (fun _ _ _ h => h) (Or.inl ⟨by rfl, fun w hSw => by (try dsimp only at hSw); go_simp⟩) (by assumption) ?_
  try simp only [Act.put, List.getElem_toArray, List.getElem_cons_succ, List.getElem_cons_zero, List.setIfInBounds_toArray, List.set_cons_zero, List.set_cons_succ]
  refine wpAnyH_take (i := 24) (v := undef) rfl (by kernel_rfl) (by kernel_rfl) (by kernel_rfl) (fun _ _ _ h => h) (Or.inr ⟨by kernel_rfl, rfl⟩) (by assumption) ?_
  try simp only [Act.put, List.getElem_toArray, List.getElem_cons_succ, List.getElem_cons_zero, List.setIfInBounds_toArray, List.set_cons_zero, List.set_cons_succ]
  refine wpAnyH_take (i := 25) (v := undef) rfl (by kernel_rfl) (by kernel_rfl) (by kernel_rfl) (fun _ _ _ h => h) (Or.inr ⟨by kernel_rfl, rfl⟩) (by assumption) ?_
  try simp only [Act.put, List.getElem_toArray, List.getElem_cons_succ, List.getElem_cons_zero, List.setIfInBounds_toArray, List.set_cons_zero, List.set_cons_succ]
  refine wpAnyH_take (i := 26) (v := .bool false) rfl (by kernel_rfl) (by kernel_rfl) (by kernel_rfl) (fun _ _ _ h => h) (Or.inl ⟨by rfl, fun w hSw => by (try dsimp only at hSw); go_simp⟩) (by assumption) ?_
  try simp only [Act.put, List.getElem_toArray, List.getElem_cons_succ, List.getElem_cons_zero, List.setIfInBounds_toArray, List.set_cons_zero, List.set_cons_succ]
  refine wpAnyH_take (i := 27) (v := .bool false) rfl (by kernel_rfl) (by kernel_rfl) (by kernel_rfl) (fun _ _ _ h => h) (Or.inl ⟨by rfl, fun w hSw => by (try dsimp only at hSw); go_simp⟩) (by assumption) ?_
  try simp only [Act.put, List.getElem_toArray, List.getElem_cons_succ, List.getElem_cons_zero, List.setIfInBounds_toArray, List.set_cons_zero, List.set_cons_succ]
  refine wpAnyH_take (i := 28) (v := undef) rfl (by kernel_rfl) (by kernel_rfl) (by kernel_rfl) (fun _ _ _ h => h) (Or.inr ⟨by kernel_rfl, rfl⟩) (by assumption) ?_
  try simp only [Act.put, List.getElem_toArray, List.getElem_cons_succ, List.getElem_cons_zero, List.setIfInBounds_toArray, List.set_cons_zero, List.set_cons_succ]
  refine wpAnyH_take (i := 29) (v := undef) rfl (by kernel_rfl) (by kernel_rfl) (by kernel_rfl) (fun _ _ _ h => h) (Or.inr ⟨by kernel_rfl, rfl⟩) (by assumption) ?_
  try simp only [Act.put, List.getElem_toArray, List.getElem_cons_succ, List.getElem_cons_zero, List.setIfInBounds_toArray, List.set_cons_zero, List.set_cons_succ]
  refine wpAnyH_take (i := 30) (v := undef) rfl (by kernel_rfl) (by kernel_rfl) (by kernel_rfl) (fun _ _ _ h => h) (Or.inr ⟨by kernel_rfl, rfl⟩) (by assumption) ?_
  try simp only [Act.put, List.getElem_toArray, List.getElem_cons_succ, List.getElem_cons_zero, List.setIfInBounds_toArray, List.set_cons_zero, List.set_cons_succ]
  refine wpAnyH_take (i := 31) (v := .bool false) rfl (by kernel_rfl) (by kernel_rfl) (by kernel_rfl) (fun _ _ _ h => h) (Or.inl ⟨by rfl, fun w hSw => by (try dsimp only at hSw); go_simp⟩) (by assumption) ?_
  try simp only [Act.put, List.getElem_toArray, List.getElem_cons_succ, List.getElem_cons_zero, List.setIfInBounds_toArray, List.set_cons_zero, List.set_cons_succ]
  refine wpAnyH_take (i := 32) (v := .bool false) rfl (by kernel_rfl) (by kernel_rfl) (by kernel_rfl) (fun _ _ _ h => h) (Or.inl ⟨by rfl, fun w hSw => by (try dsimp only at hSw); go_simp⟩) (by assumption) ?_
  try simp only [Act.put, List.getElem_toArray, List.getElem_cons_succ, List.getElem_cons_zero, List.setIfInBounds_toArray, List.set_cons_zero, List.set_cons_succ]
  refine wpAnyH_done (by kernel_rfl) ?_ _
  refine NoPanic.normal ?_
  have b : Below wn.heap.size wn _ := hHeld.1
  replace hb := bstep hb b
  replace lr := lr.step b
  replace lcap := lcap.step b
  replace g9 := g9.below b g9.lt
  replace g12 := g12.below b g12.lt
  clear b hHeld HS mm
  obtain ⟨c0, c1, c2, c3, c4, c5⟩ := cells3 g9
  obtain ⟨d0, d1, d2, d3, d4, d5⟩ := cells3 g12
  go_wp2_with fail
  clear c0 c1 c2 c3 c4 c5 d0 d1 d2 d3 d4 d5
  refine (CMU'.out _).mono ?_
  rintro e wn ⟨rfl, b⟩
  replace hb := bstep hb b
  replace lr := lr.step b
  replace lcap := lcap.step b
  replace g9 := g9.below b g9.lt
  replace g12 := g12.below b g12.lt
  clear b
  have b := balloc wn (.cells #[.int .i64 a4, .int .i64 b4, .string s4] 26)
  have g16 := Blk.new wn 26 #[.int .i64 a4, .int .i64 b4, .string s4]
  replace hb := bstep hb b
  replace lr := lr.step b
  replace lcap := lcap.step b
  replace g9 := g9.below b g9.lt
  replace g12 := g12.below b g12.lt
  clear b
  obtain ⟨c0, c1, c2, c3, c4, c5⟩ := cells3 g9
  obtain ⟨d0, d1, d2, d3, d4, d5⟩ := cells3 g12
  obtain ⟨i0, i1, i2, i3, i4, i5⟩ := cells3 g16
  go_wp2_with fail
  clear c0 c1 c2 c3 c4 c5 d0 d1 d2 d3 d4 d5 i0 i1 i2 i3 i4 i5
  generalize hW : wn.alloc (.cells #[.int .i64 a4, .int .i64 b4, .string s4] 26) = Wg16 at *
  generalize wn.heap.size = xg16 at *
  clear hW
  have HS : Hid (∀ w', Below Wg16.heap.size Wg16 w' → (Below Wg16.heap.size Wg16 w' ∧ w'.cell? ⟨xg16, 0, none⟩ = some (.int .i64 a4) ∧ w'.cell? ⟨xg16, 1, none⟩ = some (.int .i64 b4) ∧ w'.cell? ⟨xg16, 2, none⟩ = some (.string s4) ∧ w'.cell? ⟨xg12, 0, none⟩ = some (.int .i64 a2) ∧ w'.cell? ⟨xg12, 1, none⟩ = some (.int .i64 b2) ∧ w'.cell? ⟨xg12, 2, none⟩ = some (.string s2))) := Lib.hid fun w' hb' => by
    obtain ⟨k0, k1, k2, _, _, _⟩ := cells3 (g16.below hb' g16.lt)
    obtain ⟨l0, l1, l2, _, _, _⟩ := cells3 (g12.below hb' g12.lt)
    exact ⟨hb', k0, k1, k2, l0, l1, l2⟩
  go_region_held3 (fun w' => Below Wg16.heap.size Wg16 w' ∧ w'.cell? ⟨xg16, 0, none⟩ = some (.int .i64 a4) ∧ w'.cell? ⟨xg16, 1, none⟩ = some (.int .i64 b4) ∧ w'.cell? ⟨xg16, 2, none⟩ = some (.string s4) ∧ w'.cell? ⟨xg12, 0, none⟩ = some (.int .i64 a2) ∧ w'.cell? ⟨xg12, 1, none⟩ = some (.int .i64 b2) ∧ w'.cell? ⟨xg12, 2, none⟩ = some (.string s2))
    ((refine HS.out _ ?_; first | exact (Below.refl _ _).drew | assumption))
    (first
      | (go_at_call 12; (with_reducible refine (CRP'.out _).mono ?_); rintro e xp ⟨rp, rfl, hrp, bp⟩; have mp := bstep (And.left ‹Below Wg16.heap.size Wg16 _ ∧ _›) bp; have v5 := prod_left HL1.out HL2.out HM.out HR.out hrp; have v6 : decide (r < rp) = false := (by simp; omega))
      | (go_at_call 12; (with_reducible refine (CRO'.out _).mono ?_); rintro e xq ⟨ro, rfl, hro, bq⟩; have mq := bstep (And.left ‹Below Wg16.heap.size Wg16 _ ∧ _›) bq; have v7 := prod_right HL2.out hro hrp; have v8 : decide (ro < rp) = false := (by simp; omega)))
  have b := mq
  replace hb := bstep hb b
  replace lr := lr.step b
  replace lcap := lcap.step b
  replace g9 := g9.below b g9.lt
  replace g12 := g12.below b g12.lt
  replace g16 := g16.below b g16.lt
  clear b mq mp bq bp HS
  obtain ⟨c0, c1, c2, c3, c4, c5⟩ := cells3 g9
  obtain ⟨d0, d1, d2, d3, d4, d5⟩ := cells3 g12
  obtain ⟨i0, i1, i2, i3, i4, i5⟩ := cells3 g16
  go_wp2_with fail
  clear c0 c1 c2 c3 c4 c5 d0 d1 d2 d3 d4 d5 i0 i1 i2 i3 i4 i5
  refine (CI'.out _).mono ?_
  rintro e wn ⟨rfl, b⟩
  replace hb := bstep hb b
  replace lr := lr.step b
  replace lcap := lcap.step b
  replace g9 := g9.below b g9.lt
  replace g12 := g12.below b g12.lt
  replace g16 := g16.below b g16.lt
  clear b
  have b := balloc wn (.cells #[.int .i64 0, .int .i64 0, .string { data := #[] }] 26)
  have g18 := Blk.new wn 26 #[.int .i64 0, .int .i64 0, .string { data := #[] }]
  replace hb := bstep hb b
  replace lr := lr.step b
  replace lcap := lcap.step b
  replace g9 := g9.below b g9.lt
  replace g12 := g12.below b g12.lt
  replace g16 := g16.below b g16.lt
  clear b
  obtain ⟨c0, c1, c2, c3, c4, c5⟩ := cells3 g9
  obtain ⟨d0, d1, d2, d3, d4, d5⟩ := cells3 g12
  obtain ⟨i0, i1, i2, i3, i4, i5⟩ := cells3 g16
  obtain ⟨j0, j1, j2, j3, j4, j5⟩ := cells3 g18
  go_wp2_with fail
  clear c0 c1 c2 c3 c4 c5 d0 d1 d2 d3 d4 d5 i0 i1 i2 i3 i4 i5 j0 j1 j2 j3 j4 j5
  generalize hW : wn.alloc (.cells #[.int .i64 0, .int .i64 0, .string { data := #[] }] 26) = Wg18 at *
  generalize wn.heap.size = xg18 at *
  clear hW
  go_ret
  exact ⟨rfl, hb⟩
theorem ranks_OB (u1 u2 : UInt8) (A1 A2 : Option Addr) (n1 c1 n2 c2 : Nat) (rows more : List (List UInt8)) (w : World) (h1 : Rds w w.heap.size A1 n1 rows) (h2 : Rds w w.heap.size A2 n2 more) (z1 : n1 ≤ c1 ∧ c1 ≤ maxLen) (z2 : n2 ≤ c2 ∧ c2 ≤ maxLen) (hf1 : few7B rows = true) (hf2 : few7B more = true) (hM : u1.toNat % 31 = (madeL (u2.toNat % 31) more).length) (hI : (madeL (u1.toNat % 31) rows).length = u1.toNat % 31) (hK6 : ¬ u1.toNat % 31 ≤ 6) :
    Calls Try.prog 4 #[.int .u8 (bv u1), .slice A1 n1 c1, .int .u8 (bv u2), .slice A2 n2 c2] w fun e w' => e = .returned (.bool true) ∧ Below w.heap.size w w' := by
  unfold maxLen at z1 z2
  obtain ⟨z3, z4⟩ := z1
  obtain ⟨z5, z6⟩ := z2
  have HF1 := Lib.hid hf1
  have HF2 := Lib.hid hf2
  have q1 := few7_len hf1
  have q2 := few7_len hf2
  have q3 : n1 ≤ 30 := by have := h1.1; omega
  have q4 : n2 ≤ 30 := by have := h2.1; omega
  have q5 : u1.toNat % 31 ≤ 30 := by have := Nat.mod_lt u1.toNat (show 31 > 0 by omega); omega
  have q6 : u2.toNat % 31 ≤ 30 := by have := Nat.mod_lt u2.toNat (show 31 > 0 by omega); omega
  have CM1 := fun W (h : Rds W W.heap.size A1 n1 rows) => made_any (u := u1) (c := c1) h (Nat.le_refl _) q3
  have CM2 := fun W (h : Rds W W.heap.size A2 n2 more) => made_any (u := u2) (c := c2) h (Nat.le_refl _) q4
  have OK1 := made_ok q5 q1
  have OK2 := made_ok q6 q2
  have q7 : (madeL (u1.toNat % 31) rows).length ≤ 30 := by rw [made_len]; exact q1
  have q8 : (madeL (u2.toNat % 31) more).length ≤ 30 := by rw [made_len]; exact q2
  unfold MadeEnds at CM1 CM2
  clear hf1 hf2 q1 q2 q3 q4
  generalize madeL (u1.toNat % 31) rows = L1 at *
  generalize u1.toNat % 31 = K1 at *
  generalize madeL (u2.toNat % 31) more = L2 at *
  generalize u2.toNat % 31 = K2 at *
  have CR1 := fun W => grank_any (w := W) OK1
  have CT := fun W => gturned_any (w := W) OK1
  have OKT := turnL_ok OK1
  have HL1 := Lib.hid OK1.1
  have HOK1 := Lib.hid OK1
  obtain ⟨a1, b1, s1, g1⟩ := gv_parts K1 L1
  obtain ⟨a2, b2, s2, g2⟩ := gv_parts K2 L2
  obtain ⟨a3, b3, s3, g3⟩ := gv_parts L1.length (turnL K1 L1)
  have q9 : L1.length * K2 ≤ 30 * 30 := Nat.mul_le_mul q7 q6
  have CMU := fun W => gmul_ok (w := W) OK1 OK2 hM (by omega)
  have OKP : GridOk K2 (mulL L1 L2 K2) := ⟨mulL_lenB _ _ _, by omega, by rw [mulL_len]; omega, by rw [mulL_len]; omega⟩
  have HL2 := Lib.hid OK2.1
  have t1 : ((K1 : Int) != (L2.length : Int)) = false := by rw [bne_eq_false_iff_eq]; omega
  obtain ⟨a4, b4, s4, g4⟩ := gv_parts K2 (mulL L1 L2 K2)
  clear q9
  have OKO := Lib.hid OK2.1
  have CI := fun W => ginv_any (w := W) OK1 hI
  unfold InvEnds at CI
  have HI := Lib.hid hI
  have t2 : ((K1 : Int) != (L1.length : Int)) = false := by rw [bne_eq_false_iff_eq]; omega
  have t2' : ((K1 : Int) == (L1.length : Int)) = true := by rw [beq_iff_eq]; omega
  have HA1 : Hid (lenB L1.length L1 = true) := Lib.hid (by rw [hI]; exact OK1.1)
  have CU := fun W => gunitn_ok K1 W (by omega)
  have CRT := fun W => grank_any (w := W) OKT
  have CTT := fun W => gturned_any (w := W) OKT
  rw [turn_turn OK1.1, turnL_len] at CTT
  have CS1 := fun W => gsame_any K1 K1 L1 L1 W
  rw [sameG_self'] at CS1
  have CRP := fun W => grank_any (w := W) OKP
  have CRO := fun W => grank_any (w := W) OK2
  simp only [g1, g2, g3, gv_zero, g4] at CM1
  simp only [g1, g2, g3, gv_zero, g4] at CM2
  simp only [g1, g2, g3, gv_zero, g4] at CR1
  simp only [g1, g2, g3, gv_zero, g4] at CT
  simp only [g1, g2, g3, gv_zero, g4] at CMU
  simp only [g1, g2, g3, gv_zero, g4] at CI
  simp only [g1, g2, g3, gv_zero, g4] at CRT
  simp only [g1, g2, g3, gv_zero, g4] at CTT
  simp only [g1, g2, g3, gv_zero, g4] at CS1
  simp only [g1, g2, g3, gv_zero, g4] at CRP
  simp only [g1, g2, g3, gv_zero, g4] at CRO
  have CM1' := Lib.hid CM1
  have CM2' := Lib.hid CM2
  have CR1' := Lib.hid CR1
  have CT' := Lib.hid CT
  have CMU' := Lib.hid CMU
  have CI' := Lib.hid CI
  have CRT' := Lib.hid CRT
  have CTT' := Lib.hid CTT
  have CS1' := Lib.hid CS1
  have CRP' := Lib.hid CRP
  have CRO' := Lib.hid CRO
  have CU' := Lib.hid CU
  clear CU
  have HM := Lib.hid hM
  clear CM1 CM2 CR1 CT CMU CI CRT CTT CS1 CRP CRO hM hI OK1 OK2 OKT OKP
  go_enter Try.func4, Try.ntmps4
  go_wp2_with fail
  refine (awake7 _).mono ?_
  rintro e w1 ⟨rfl, hb⟩
  replace h1 := h1.step hb
  replace h2 := h2.step hb
  go_wp2_with fail
  refine (few7_any h1 (by omega)).mono ?_
  rintro e w' ⟨rfl, rfl⟩
  rw [HF1.out]
  go_wp2_with fail
  refine (few7_any h2 (by omega)).mono ?_
  rintro e w' ⟨rfl, rfl⟩
  rw [HF2.out]
  go_wp2_with fail
  refine (CM1'.out _ h1).mono ?_
  rintro e wn ⟨Al, ml, cl, rfl, lr, y1, y2, lcap, b⟩
  replace hb := bstep hb b
  replace h2 := h2.step b
  clear b
  obtain rfl : L1.length = ml := lr.1
  clear h1
  have b := balloc wn (.cells #[.int .i64 a1, .int .i64 b1, .string s1] 26)
  have g9 := Blk.new wn 26 #[.int .i64 a1, .int .i64 b1, .string s1]
  replace hb := bstep hb b
  replace h2 := h2.step b
  replace lr := lr.step b
  replace lcap := lcap.step b
  clear b
  obtain ⟨c0, c1, c2, c3, c4, c5⟩ := cells3 g9
  go_wp2_with fail
  clear c0 c1 c2 c3 c4 c5
  generalize hW : wn.alloc (.cells #[.int .i64 a1, .int .i64 b1, .string s1] 26) = Wg9 at *
  generalize wn.heap.size = xg9 at *
  clear hW
  refine (CM2'.out _ h2).mono ?_
  rintro e wn ⟨Ak, mk, ck, rfl, kr, y3, y4, _, b⟩
  clear h2
  replace hb := bstep hb b
  replace lr := lr.step b
  replace lcap := lcap.step b
  replace g9 := g9.below b g9.lt
  clear b
  obtain rfl : L2.length = mk := kr.1
  clear kr
  have b := balloc wn (.cells #[.int .i64 a2, .int .i64 b2, .string s2] 26)
  have g12 := Blk.new wn 26 #[.int .i64 a2, .int .i64 b2, .string s2]
  replace hb := bstep hb b
  replace lr := lr.step b
  replace lcap := lcap.step b
  replace g9 := g9.below b g9.lt
  clear b
  obtain ⟨c0, c1, c2, c3, c4, c5⟩ := cells3 g9
  obtain ⟨d0, d1, d2, d3, d4, d5⟩ := cells3 g12
  go_wp2_with fail
  clear c0 c1 c2 c3 c4 c5 d0 d1 d2 d3 d4 d5
  generalize hW : wn.alloc (.cells #[.int .i64 a2, .int .i64 b2, .string s2] 26) = Wg12 at *
  generalize wn.heap.size = xg12 at *
  clear hW
  refine (CR1'.out _).mono ?_
  rintro e wn ⟨r, rfl, hr, b⟩
  replace hb := bstep hb b
  replace lr := lr.step b
  replace lcap := lcap.step b
  replace g9 := g9.below b g9.lt
  replace g12 := g12.below b g12.lt
  clear b
  have HR := Lib.hid hr
  clear hr
  have v1 := (rk_wide HL1.out HR.out).1
  have v2 := (rk_wide HL1.out HR.out).2
  have v3 : decide (K1 < r) = false := by simp; omega
  have v4 : decide (L1.length < r) = false := by simp; omega
  rcases Nat.lt_or_ge r K1 with hrk | hrk
  · have v9 : ((r : Int) == (K1 : Int)) = false := by rw [beq_eq_false_iff_ne]; omega
    obtain ⟨c0, c1, c2, c3, c4, c5⟩ := cells3 g9
    obtain ⟨d0, d1, d2, d3, d4, d5⟩ := cells3 g12
    have HS : Hid (∀ w', Below wn.heap.size wn w' → (Below wn.heap.size wn w' ∧ w'.cell? ⟨xg9, 0, none⟩ = some (.int .i64 a1) ∧ w'.cell? ⟨xg9, 1, none⟩ = some (.int .i64 b1) ∧ w'.cell? ⟨xg9, 2, none⟩ = some (.string s1))) := Lib.hid fun w' hb' => by
      obtain ⟨k0, k1, k2, _, _, _⟩ := cells3 (g9.below hb' g9.lt)
      exact ⟨hb', k0, k1, k2⟩
    go_wp2_with fail
    clear c0 c1 c2 c3 c4 c5 d0 d1 d2 d3 d4 d5
    refine wp_region_noPanic ?_
    refine wp_region_held_drew (S := fun w' => Below wn.heap.size wn w' ∧ w'.cell? ⟨xg9, 0, none⟩ = some (.int .i64 a1) ∧ w'.cell? ⟨xg9, 1, none⟩ = some (.int .i64 b1) ∧ w'.cell? ⟨xg9, 2, none⟩ = some (.string s1)) (by kernel_rfl) (HS.out _ (Below.refl _ _).drew) (fun hHeld => ?_)
    refine wpAnyH_take (i := 0) (v := .int .i64 (r : Int)) rfl (by kernel_rfl) (by kernel_rfl) (by kernel_rfl) (fun _ _ _ h => h) (Or.inl ⟨by rfl, fun w hSw => by (try dsimp only at hSw); go_simp⟩) (by assumption) ?_
    try simp only [Act.put, List.getElem_toArray, List.getElem_cons_succ, List.getElem_cons_zero, List.setIfInBounds_toArray, List.set_cons_zero, List.set_cons_succ]
    refine wpAnyH_take (i := 1) (v := (.agg #[.int .i64 a1, .int .i64 b1, .string s1])) rfl (by kernel_rfl) (by kernel_rfl) (by kernel_rfl) (fun _ _ _ h => h) (Or.inl ⟨by rfl, fun w hSw => by (try dsimp only at hSw); go_simp⟩) (by assumption) ?_
    try simp only [Act.put, List.getElem_toArray, List.getElem_cons_succ, List.getElem_cons_zero, List.setIfInBounds_toArray, List.set_cons_zero, List.set_cons_succ]
    refine wpAnyH_ready (rs := [2]) (by kernel_rfl) (by simp) ?_
    refine AllReadyH.cons rfl (fun K hK => ?_) AllReadyH.nil
    go_simp
    refine (CT'.out _).mono ?_
    rintro e x1 ⟨rfl, e1⟩
    have mm := bstep hHeld.1 e1
    simp only []
    refine hK.out _ _ (HS.out _ mm) (fun hHeld => ?_)
    clear hK K
    try simp only [Act.put, List.getElem_toArray, List.getElem_cons_succ, List.getElem_cons_zero, List.setIfInBounds_toArray, List.set_cons_zero, List.set_cons_succ]
    refine wpAnyH_ready (rs := [3]) (by kernel_rfl) (by simp) ?_
    refine AllReadyH.cons rfl (fun K hK => ?_) AllReadyH.nil
    go_simp
    refine (CRT'.out _).mono ?_
    rintro e x2 ⟨rt, rfl, hrt, e2⟩
    have mm := bstep hHeld.1 e2
    obtain rfl : r = rt := (turn_rank HL1.out HR.out hrt).symm
    simp only []
    refine hK.out _ _ (HS.out _ mm) (fun hHeld => ?_)
    clear hK K
    try simp only [Act.put, List.getElem_toArray, List.getElem_cons_succ, List.getElem_cons_zero, List.setIfInBounds_toArray, List.set_cons_zero, List.set_cons_succ]
    refine wpAnyH_take (i := 4) (v := .bool false) rfl (by kernel_rfl) (by kernel_rfl) (by kernel_rfl) (fun _ _ _ h => h) (Or.inl ⟨by rfl, fun w hSw => by (try dsimp only at hSw); go_simp⟩) (by assumption) ?_
    try simp only [Act.put, List.getElem_toArray, List.getElem_cons_succ, List.getElem_cons_zero, List.setIfInBounds_toArray, List.set_cons_zero, List.set_cons_succ]
    refine wpAnyH_take (i := 5) (v := .bool false) rfl (by kernel_rfl) (by kernel_rfl) (by kernel_rfl) (fun _ _ _ h => h) (Or.inl ⟨by rfl, fun w hSw => by (try dsimp only at hSw); go_simp⟩) (by assumption) ?_
    try simp only [Act.put, List.getElem_toArray, List.getElem_cons_succ, List.getElem_cons_zero, List.setIfInBounds_toArray, List.set_cons_zero, List.set_cons_succ]
    refine wpAnyH_take (i := 6) (v := .int .i64 (r : Int)) rfl (by kernel_rfl) (by kernel_rfl) (by kernel_rfl) (fun _ _ _ h => h) (Or.inl ⟨by rfl, fun w hSw => by (try dsimp only at hSw); go_simp⟩) (by assumption) ?_
    try simp only [Act.put, List.getElem_toArray, List.getElem_cons_succ, List.getElem_cons_zero, List.setIfInBounds_toArray, List.set_cons_zero, List.set_cons_succ]
    refine wpAnyH_take (i := 7) (v := .int .i64 (K1 : Int)) rfl (by kernel_rfl) (by kernel_rfl) (by kernel_rfl) (fun _ _ _ h => h) (Or.inl ⟨by rfl, fun w hSw => by (try dsimp only at hSw); go_simp⟩) (by assumption) ?_
    try simp only [Act.put, List.getElem_toArray, List.getElem_cons_succ, List.getElem_cons_zero, List.setIfInBounds_toArray, List.set_cons_zero, List.set_cons_succ]
    refine wpAnyH_take (i := 8) (v := .bool false) rfl (by kernel_rfl) (by kernel_rfl) (by kernel_rfl) (fun _ _ _ h => h) (Or.inl ⟨by rfl, fun w hSw => by (try dsimp only at hSw); go_simp⟩) (by assumption) ?_
    try simp only [Act.put, List.getElem_toArray, List.getElem_cons_succ, List.getElem_cons_zero, List.setIfInBounds_toArray, List.set_cons_zero, List.set_cons_succ]
    refine wpAnyH_take (i := 9) (v := .bool false) rfl (by kernel_rfl) (by kernel_rfl) (by kernel_rfl) (fun _ _ _ h => h) (Or.inl ⟨by rfl, fun w hSw => by (try dsimp only at hSw); go_simp⟩) (by assumption) ?_
    try simp only [Act.put, List.getElem_toArray, List.getElem_cons_succ, List.getElem_cons_zero, List.setIfInBounds_toArray, List.set_cons_zero, List.set_cons_succ]
    refine wpAnyH_take (i := 10) (v := .bool false) rfl (by kernel_rfl) (by kernel_rfl) (by kernel_rfl) (fun _ _ _ h => h) (Or.inl ⟨by rfl, fun w hSw => by (try dsimp only at hSw); go_simp⟩) (by assumption) ?_
    try simp only [Act.put, List.getElem_toArray, List.getElem_cons_succ, List.getElem_cons_zero, List.setIfInBounds_toArray, List.set_cons_zero, List.set_cons_succ]
    refine wpAnyH_take (i := 11) (v := .int .i64 (r : Int)) rfl (by kernel_rfl) (by kernel_rfl) (by kernel_rfl) (fun _ _ _ h => h) (Or.inl ⟨by rfl, fun w hSw => by (try dsimp only at hSw); go_simp⟩) (by assumption) ?_
    try simp only [Act.put, List.getElem_toArray, List.getElem_cons_succ, List.getElem_cons_zero, List.setIfInBounds_toArray, List.set_cons_zero, List.set_cons_succ]
    refine wpAnyH_take (i := 12) (v := (.slice Al L1.length cl)) rfl (by kernel_rfl) (by kernel_rfl) (by kernel_rfl) (fun _ _ _ h => h) (Or.inl ⟨by rfl, fun w hSw => by (try dsimp only at hSw); go_simp⟩) (by assumption) ?_
    try simp only [Act.put, List.getElem_toArray, List.getElem_cons_succ, List.getElem_cons_zero, List.setIfInBounds_toArray, List.set_cons_zero, List.set_cons_succ]
    refine wpAnyH_ready (rs := [13]) (by kernel_rfl) (by simp) ?_
    refine AllReadyH.cons rfl (fun K hK => ?_) AllReadyH.nil
    go_simp
    refine hK.out _ _ hHeld (fun hHeld => ?_)
    clear hK K
    try simp only [Act.put, List.getElem_toArray, List.getElem_cons_succ, List.getElem_cons_zero, List.setIfInBounds_toArray, List.set_cons_zero, List.set_cons_succ]
    refine wpAnyH_take (i := 14) (v := .bool false) rfl (by kernel_rfl) (by kernel_rfl) (by kernel_rfl) (fun _ _ _ h => h) (Or.inl ⟨by rfl, fun w hSw => by (try dsimp only at hSw); go_simp⟩) (by assumption) ?_
    try simp only [Act.put, List.getElem_toArray, List.getElem_cons_succ, List.getElem_cons_zero, List.setIfInBounds_toArray, List.set_cons_zero, List.set_cons_succ]
    refine wpAnyH_take (i := 15) (v := .bool false) rfl (by kernel_rfl) (by kernel_rfl) (by kernel_rfl) (fun _ _ _ h => h) (Or.inl ⟨by rfl, fun w hSw => by (try dsimp only at hSw); go_simp⟩) (by assumption) ?_
    try simp only [Act.put, List.getElem_toArray, List.getElem_cons_succ, List.getElem_cons_zero, List.setIfInBounds_toArray, List.set_cons_zero, List.set_cons_succ]
    refine wpAnyH_take (i := 16) (v := .bool false) rfl (by kernel_rfl) (by kernel_rfl) (by kernel_rfl) (fun _ _ _ h => h) (Or.inl ⟨by rfl, fun w hSw => by (try dsimp only at hSw); go_simp⟩) (by assumption) ?_
    try simp only [Act.put, List.getElem_toArray, List.getElem_cons_succ, List.getElem_cons_zero, List.setIfInBounds_toArray, List.set_cons_zero, List.set_cons_succ]
    refine wpAnyH_take (i := 17) (v := (.agg #[.int .i64 a1, .int .i64 b1, .string s1])) rfl (by kernel_rfl) (by kernel_rfl) (by kernel_rfl) (fun _ _ _ h => h) (Or.inl ⟨by rfl, fun w hSw => by (try dsimp only at hSw); go_simp⟩) (by assumption) ?_
    try simp only [Act.put, List.getElem_toArray, List.getElem_cons_succ, List.getElem_cons_zero, List.setIfInBounds_toArray, List.set_cons_zero, List.set_cons_succ]
    refine wpAnyH_take (i := 20) (v := (.agg #[.int .i64 a1, .int .i64 b1, .string s1])) rfl (by kernel_rfl) (by kernel_rfl) (by kernel_rfl) (fun _ _ _ h => h) (Or.inl ⟨by rfl, fun w hSw => by (try dsimp only at hSw); go_simp⟩) (by assumption) ?_
    try simp only [Act.put, List.getElem_toArray, List.getElem_cons_succ, List.getElem_cons_zero, List.setIfInBounds_toArray, List.set_cons_zero, List.set_cons_succ]
    refine wpAnyH_ready (rs := [18]) (by kernel_rfl) (by simp) ?_
    refine AllReadyH.cons rfl (fun K hK => ?_) AllReadyH.nil
    go_simp
    refine (CT'.out _).mono ?_
    rintro e x3 ⟨rfl, e3⟩
    have mm := bstep hHeld.1 e3
    simp only []
    refine hK.out _ _ (HS.out _ mm) (fun hHeld => ?_)
    clear hK K
    try simp only [Act.put, List.getElem_toArray, List.getElem_cons_succ, List.getElem_cons_zero, List.setIfInBounds_toArray, List.set_cons_zero, List.set_cons_succ]
    refine wpAnyH_ready (rs := [19]) (by kernel_rfl) (by simp) ?_
    refine AllReadyH.cons rfl (fun K hK => ?_) AllReadyH.nil
    go_simp
    refine (CTT'.out _).mono ?_
    rintro e x4 ⟨rfl, e4⟩
    have mm := bstep hHeld.1 e4
    simp only []
    refine hK.out _ _ (HS.out _ mm) (fun hHeld => ?_)
    clear hK K
    try simp only [Act.put, List.getElem_toArray, List.getElem_cons_succ, List.getElem_cons_zero, List.setIfInBounds_toArray, List.set_cons_zero, List.set_cons_succ]
    refine wpAnyH_ready (rs := [21]) (by kernel_rfl) (by simp) ?_
    refine AllReadyH.cons rfl (fun K hK => ?_) AllReadyH.nil
    go_simp
    refine (CS1'.out _).mono ?_
    rintro e x5 ⟨rfl, e5⟩
    have mm := bstep hHeld.1 e5
    simp only []
    refine hK.out _ _ (HS.out _ mm) (fun hHeld => ?_)
    clear hK K
    try simp only [Act.put, List.getElem_toArray, List.getElem_cons_succ, List.getElem_cons_zero, List.setIfInBounds_toArray, List.set_cons_zero, List.set_cons_succ]
    refine wpAnyH_take (i := 22) (v := .bool false) rfl (by kernel_rfl) (by kernel_rfl) (by kernel_rfl) (fun _ _ _ h => h) (Or.inl ⟨by rfl, fun w hSw => by (try dsimp only at hSw); go_simp⟩) (by assumption) ?_
    try simp only [Act.put, List.getElem_toArray, List.getElem_cons_succ, List.getElem_cons_zero, List.setIfInBounds_toArray, List.set_cons_zero, List.set_cons_succ]
    refine wpAnyH_take (i := 23) (v := .bool false) rfl (by kernel_rfl) (by kernel_rfl) (by kernel_rfl) (fun _ _ _ h => h) (Or.inl ⟨by rfl, fun w hSw => by (try dsimp only at hSw); go_simp⟩) (by assumption) ?_
    try simp only [Act.put, List.getElem_toArray, List.getElem_cons_succ, List.getElem_cons_zero, List.setIfInBounds_toArray, List.set_cons_zero, List.set_cons_succ]
    refine wpAnyH_take (i := 24) (v := undef) rfl (by kernel_rfl) (by kernel_rfl) (by kernel_rfl) (fun _ _ _ h => h) (Or.inr ⟨by kernel_rfl, rfl⟩) (by assumption) ?_
    try simp only [Act.put, List.getElem_toArray, List.getElem_cons_succ, List.getElem_cons_zero, List.setIfInBounds_toArray, List.set_cons_zero, List.set_cons_succ]
    refine wpAnyH_take (i := 25) (v := undef) rfl (by kernel_rfl) (by kernel_rfl) (by kernel_rfl) (fun _ _ _ h => h) (Or.inr ⟨by kernel_rfl, rfl⟩) (by assumption) ?_
    try simp only [Act.put, List.getElem_toArray, List.getElem_cons_succ, List.getElem_cons_zero, List.setIfInBounds_toArray, List.set_cons_zero, List.set_cons_succ]
    refine wpAnyH_take (i := 26) (v := .bool false) rfl (by kernel_rfl) (by kernel_rfl) (by kernel_rfl) (fun _ _ _ h => h) (Or.inl ⟨by rfl, fun w hSw => by (try dsimp only at hSw); go_simp⟩) (by assumption) ?_
    try simp only [Act.put, List.getElem_toArray, List.getElem_cons_succ, List.getElem_cons_zero, List.setIfInBounds_toArray, List.set_cons_zero, List.set_cons_succ]
    refine wpAnyH_take (i := 27) (v := .bool false) rfl (by kernel_rfl) (by kernel_rfl) (by kernel_rfl) (fun _ _ _ h => h) (Or.inl ⟨by rfl, fun w hSw => by (try dsimp only at hSw); go_simp⟩) (by assumption) ?_
    try simp only [Act.put, List.getElem_toArray, List.getElem_cons_succ, List.getElem_cons_zero, List.setIfInBounds_toArray, List.set_cons_zero, List.set_cons_succ]
    refine wpAnyH_take (i := 28) (v := undef) rfl (by kernel_rfl) (by kernel_rfl) (by kernel_rfl) (fun _ _ _ h => h) (Or.inr ⟨by kernel_rfl, rfl⟩) (by assumption) ?_
    try simp only [Act.put, List.getElem_toArray, List.getElem_cons_succ, List.getElem_cons_zero, List.setIfInBounds_toArray, List.set_cons_zero, List.set_cons_succ]
    refine wpAnyH_take (i := 29) (v := undef) rfl (by kernel_rfl) (by kernel_rfl) (by kernel_rfl) (fun _ _ _ h => h) (Or.inr ⟨by kernel_rfl, rfl⟩) (by assumption) ?_
    try simp only [Act.put, List.getElem_toArray, List.getElem_cons_succ, List.getElem_cons_zero, List.setIfInBounds_toArray, List.set_cons_zero, List.set_cons_succ]
    refine wpAnyH_take (i := 30) (v := undef) rfl (by kernel_rfl) (by kernel_rfl) (by kernel_rfl) (fun _ _ _ h => h) (Or.inr ⟨by kernel_rfl, rfl⟩) (by assumption) ?_
    try simp only [Act.put, List.getElem_toArray, List.getElem_cons_succ, List.getElem_cons_zero, List.setIfInBounds_toArray, List.set_cons_zero, List.set_cons_succ]
    refine wpAnyH_take (i := 31) (v := .bool false) rfl (by kernel_rfl) (by kernel_rfl) (by kernel_rfl) (fun _ _ _ h => h) (Or.inl ⟨by rfl, fun w hSw => by (try dsimp only at hSw); go_simp⟩) (by assumption) ?_
    try simp only [Act.put, List.getElem_toArray, List.getElem_cons_succ, List.getElem_cons_zero, List.setIfInBounds_toArray, List.set_cons_zero, List.set_cons_succ]
    refine wpAnyH_take (i := 32) (v := .bool false) rfl (by kernel_rfl) (by kernel_rfl) (by kernel_rfl) (fun _ _ _ h => h) (Or.inl ⟨by rfl, fun w hSw => by (try dsimp only at hSw); go_simp⟩) (by assumption) ?_
    try simp only [Act.put, List.getElem_toArray, List.getElem_cons_succ, List.getElem_cons_zero, List.setIfInBounds_toArray, List.set_cons_zero, List.set_cons_succ]
    refine wpAnyH_done (by kernel_rfl) ?_ _
    refine NoPanic.normal ?_
    have b : Below wn.heap.size wn _ := hHeld.1
    replace hb := bstep hb b
    replace lr := lr.step b
    replace lcap := lcap.step b
    replace g9 := g9.below b g9.lt
    replace g12 := g12.below b g12.lt
    clear b hHeld HS mm
    obtain ⟨c0, c1, c2, c3, c4, c5⟩ := cells3 g9
    obtain ⟨d0, d1, d2, d3, d4, d5⟩ := cells3 g12
    go_wp2_with fail
    clear c0 c1 c2 c3 c4 c5 d0 d1 d2 d3 d4 d5
    refine (CMU'.out _).mono ?_
    rintro e wn ⟨rfl, b⟩
    replace hb := bstep hb b
    replace lr := lr.step b
    replace lcap := lcap.step b
    replace g9 := g9.below b g9.lt
    replace g12 := g12.below b g12.lt
    clear b
    have b := balloc wn (.cells #[.int .i64 a4, .int .i64 b4, .string s4] 26)
    have g16 := Blk.new wn 26 #[.int .i64 a4, .int .i64 b4, .string s4]
    replace hb := bstep hb b
    replace lr := lr.step b
    replace lcap := lcap.step b
    replace g9 := g9.below b g9.lt
    replace g12 := g12.below b g12.lt
    clear b
    obtain ⟨c0, c1, c2, c3, c4, c5⟩ := cells3 g9
    obtain ⟨d0, d1, d2, d3, d4, d5⟩ := cells3 g12
    obtain ⟨i0, i1, i2, i3, i4, i5⟩ := cells3 g16
    go_wp2_with fail
    clear c0 c1 c2 c3 c4 c5 d0 d1 d2 d3 d4 d5 i0 i1 i2 i3 i4 i5
    generalize hW : wn.alloc (.cells #[.int .i64 a4, .int .i64 b4, .string s4] 26) = Wg16 at *
    generalize wn.heap.size = xg16 at *
    clear hW
    have HS : Hid (∀ w', Below Wg16.heap.size Wg16 w' → (Below Wg16.heap.size Wg16 w' ∧ w'.cell? ⟨xg16, 0, none⟩ = some (.int .i64 a4) ∧ w'.cell? ⟨xg16, 1, none⟩ = some (.int .i64 b4) ∧ w'.cell? ⟨xg16, 2, none⟩ = some (.string s4) ∧ w'.cell? ⟨xg12, 0, none⟩ = some (.int .i64 a2) ∧ w'.cell? ⟨xg12, 1, none⟩ = some (.int .i64 b2) ∧ w'.cell? ⟨xg12, 2, none⟩ = some (.string s2))) := Lib.hid fun w' hb' => by
      obtain ⟨k0, k1, k2, _, _, _⟩ := cells3 (g16.below hb' g16.lt)
      obtain ⟨l0, l1, l2, _, _, _⟩ := cells3 (g12.below hb' g12.lt)
      exact ⟨hb', k0, k1, k2, l0, l1, l2⟩
    go_region_held3 (fun w' => Below Wg16.heap.size Wg16 w' ∧ w'.cell? ⟨xg16, 0, none⟩ = some (.int .i64 a4) ∧ w'.cell? ⟨xg16, 1, none⟩ = some (.int .i64 b4) ∧ w'.cell? ⟨xg16, 2, none⟩ = some (.string s4) ∧ w'.cell? ⟨xg12, 0, none⟩ = some (.int .i64 a2) ∧ w'.cell? ⟨xg12, 1, none⟩ = some (.int .i64 b2) ∧ w'.cell? ⟨xg12, 2, none⟩ = some (.string s2))
      ((refine HS.out _ ?_; first | exact (Below.refl _ _).drew | assumption))
      (first
        | (go_at_call 12; (with_reducible refine (CRP'.out _).mono ?_); rintro e xp ⟨rp, rfl, hrp, bp⟩; have mp := bstep (And.left ‹Below Wg16.heap.size Wg16 _ ∧ _›) bp; have v5 := prod_left HL1.out HL2.out HM.out HR.out hrp; have v6 : decide (r < rp) = false := (by simp; omega))
        | (go_at_call 12; (with_reducible refine (CRO'.out _).mono ?_); rintro e xq ⟨ro, rfl, hro, bq⟩; have mq := bstep (And.left ‹Below Wg16.heap.size Wg16 _ ∧ _›) bq; have v7 := prod_right HL2.out hro hrp; have v8 : decide (ro < rp) = false := (by simp; omega)))
    have b := mq
    replace hb := bstep hb b
    replace lr := lr.step b
    replace lcap := lcap.step b
    replace g9 := g9.below b g9.lt
    replace g12 := g12.below b g12.lt
    replace g16 := g16.below b g16.lt
    clear b mq mp bq bp HS
    obtain ⟨c0, c1, c2, c3, c4, c5⟩ := cells3 g9
    obtain ⟨d0, d1, d2, d3, d4, d5⟩ := cells3 g12
    obtain ⟨i0, i1, i2, i3, i4, i5⟩ := cells3 g16
    go_wp2_with fail
    clear c0 c1 c2 c3 c4 c5 d0 d1 d2 d3 d4 d5 i0 i1 i2 i3 i4 i5
    refine (CI'.out _).mono ?_
    rintro e wn ⟨hcase, b⟩
    replace hb := bstep hb b
    replace lr := lr.step b
    replace lcap := lcap.step b
    replace g9 := g9.below b g9.lt
    replace g12 := g12.below b g12.lt
    replace g16 := g16.below b g16.lt
    clear b
    rcases hcase with ⟨rfl, hlt⟩ | ⟨D, rfl, hD⟩
    · clear hlt
      simp only [gv_zero]
      have b := balloc wn (.cells #[.int .i64 0, .int .i64 0, .string { data := #[] }] 26)
      have g18 := Blk.new wn 26 #[.int .i64 0, .int .i64 0, .string { data := #[] }]
      replace hb := bstep hb b
      replace lr := lr.step b
      replace lcap := lcap.step b
      replace g9 := g9.below b g9.lt
      replace g12 := g12.below b g12.lt
      replace g16 := g16.below b g16.lt
      clear b
      obtain ⟨c0, c1, c2, c3, c4, c5⟩ := cells3 g9
      obtain ⟨d0, d1, d2, d3, d4, d5⟩ := cells3 g12
      obtain ⟨i0, i1, i2, i3, i4, i5⟩ := cells3 g16
      obtain ⟨j0, j1, j2, j3, j4, j5⟩ := cells3 g18
      go_wp2_with fail
      clear c0 c1 c2 c3 c4 c5 d0 d1 d2 d3 d4 d5 i0 i1 i2 i3 i4 i5 j0 j1 j2 j3 j4 j5
      generalize hW : wn.alloc (.cells #[.int .i64 0, .int .i64 0, .string { data := #[] }] 26) = Wg18 at *
      generalize wn.heap.size = xg18 at *
      clear hW
      go_ret
      exact ⟨rfl, hb⟩
    · exact absurd (inv_rank hD HL1.out HI.out HR.out) (by omega)
  · obtain rfl : K1 = r := by omega
    clear hrk v1 v3
    have v3 : decide (K1 < K1) = false := by simp
    obtain ⟨c0, c1, c2, c3, c4, c5⟩ := cells3 g9
    obtain ⟨d0, d1, d2, d3, d4, d5⟩ := cells3 g12
    have HS : Hid (∀ w', Below wn.heap.size wn w' → (Below wn.heap.size wn w' ∧ w'.cell? ⟨xg9, 0, none⟩ = some (.int .i64 a1) ∧ w'.cell? ⟨xg9, 1, none⟩ = some (.int .i64 b1) ∧ w'.cell? ⟨xg9, 2, none⟩ = some (.string s1))) := Lib.hid fun w' hb' => by
      obtain ⟨k0, k1, k2, _, _, _⟩ := cells3 (g9.below hb' g9.lt)
      exact ⟨hb', k0, k1, k2⟩
    go_wp2_with fail
    clear c0 c1 c2 c3 c4 c5 d0 d1 d2 d3 d4 d5
    refine wp_region_noPanic ?_
    refine wp_region_held_drew (S := fun w' => Below wn.heap.size wn w' ∧ w'.cell? ⟨xg9, 0, none⟩ = some (.int .i64 a1) ∧ w'.cell? ⟨xg9, 1, none⟩ = some (.int .i64 b1) ∧ w'.cell? ⟨xg9, 2, none⟩ = some (.string s1)) (by kernel_rfl) (HS.out _ (Below.refl _ _).drew) (fun hHeld => ?_)
    refine wpAnyH_take (i := 0) (v := .int .i64 (K1 : Int)) rfl (by kernel_rfl) (by kernel_rfl) (by kernel_rfl) (fun _ _ _ h => h) (Or.inl ⟨by rfl, fun w hSw => by (try dsimp only at hSw); go_simp⟩) (by assumption) ?_
    try simp only [Act.put, List.getElem_toArray, List.getElem_cons_succ, List.getElem_cons_zero, List.setIfInBounds_toArray, List.set_cons_zero, List.set_cons_succ]
    refine wpAnyH_take (i := 1) (v := (.agg #[.int .i64 a1, .int .i64 b1, .string s1])) rfl (by kernel_rfl) (by kernel_rfl) (by kernel_rfl) (fun _ _ _ h => h) (Or.inl ⟨by rfl, fun w hSw => by (try dsimp only at hSw); go_simp⟩) (by assumption) ?_
    try simp only [Act.put, List.getElem_toArray, List.getElem_cons_succ, List.getElem_cons_zero, List.setIfInBounds_toArray, List.set_cons_zero, List.set_cons_succ]
    refine wpAnyH_ready (rs := [2]) (by kernel_rfl) (by simp) ?_
    refine AllReadyH.cons rfl (fun K hK => ?_) AllReadyH.nil
    go_simp
    refine (CT'.out _).mono ?_
    rintro e x1 ⟨rfl, e1⟩
    have mm := bstep hHeld.1 e1
    simp only []
    refine hK.out _ _ (HS.out _ mm) (fun hHeld => ?_)
    clear hK K
    try simp only [Act.put, List.getElem_toArray, List.getElem_cons_succ, List.getElem_cons_zero, List.setIfInBounds_toArray, List.set_cons_zero, List.set_cons_succ]
    refine wpAnyH_ready (rs := [3]) (by kernel_rfl) (by simp) ?_
    refine AllReadyH.cons rfl (fun K hK => ?_) AllReadyH.nil
    go_simp
    refine (CRT'.out _).mono ?_
    rintro e x2 ⟨rt, rfl, hrt, e2⟩
    have mm := bstep hHeld.1 e2
    obtain rfl : K1 = rt := (turn_rank HL1.out HR.out hrt).symm
    simp only []
    refine hK.out _ _ (HS.out _ mm) (fun hHeld => ?_)
    clear hK K
    try simp only [Act.put, List.getElem_toArray, List.getElem_cons_succ, List.getElem_cons_zero, List.setIfInBounds_toArray, List.set_cons_zero, List.set_cons_succ]
    refine wpAnyH_take (i := 4) (v := .bool false) rfl (by kernel_rfl) (by kernel_rfl) (by kernel_rfl) (fun _ _ _ h => h) (Or.inl ⟨by rfl, fun w hSw => by (try dsimp only at hSw); go_simp⟩) (by assumption) ?_
    try simp only [Act.put, List.getElem_toArray, List.getElem_cons_succ, List.getElem_cons_zero, List.setIfInBounds_toArray, List.set_cons_zero, List.set_cons_succ]
    refine wpAnyH_take (i := 5) (v := .bool false) rfl (by kernel_rfl) (by kernel_rfl) (by kernel_rfl) (fun _ _ _ h => h) (Or.inl ⟨by rfl, fun w hSw => by (try dsimp only at hSw); go_simp⟩) (by assumption) ?_
    try simp only [Act.put, List.getElem_toArray, List.getElem_cons_succ, List.getElem_cons_zero, List.setIfInBounds_toArray, List.set_cons_zero, List.set_cons_succ]
    refine wpAnyH_take (i := 6) (v := .int .i64 (K1 : Int)) rfl (by kernel_rfl) (by kernel_rfl) (by kernel_rfl) (fun _ _ _ h => h) (Or.inl ⟨by rfl, fun w hSw => by (try dsimp only at hSw); go_simp⟩) (by assumption) ?_
    try simp only [Act.put, List.getElem_toArray, List.getElem_cons_succ, List.getElem_cons_zero, List.setIfInBounds_toArray, List.set_cons_zero, List.set_cons_succ]
    refine wpAnyH_take (i := 7) (v := .int .i64 (K1 : Int)) rfl (by kernel_rfl) (by kernel_rfl) (by kernel_rfl) (fun _ _ _ h => h) (Or.inl ⟨by rfl, fun w hSw => by (try dsimp only at hSw); go_simp⟩) (by assumption) ?_
    try simp only [Act.put, List.getElem_toArray, List.getElem_cons_succ, List.getElem_cons_zero, List.setIfInBounds_toArray, List.set_cons_zero, List.set_cons_succ]
    refine wpAnyH_take (i := 8) (v := .bool false) rfl (by kernel_rfl) (by kernel_rfl) (by kernel_rfl) (fun _ _ _ h => h) (Or.inl ⟨by rfl, fun w hSw => by (try dsimp only at hSw); go_simp⟩) (by assumption) ?_
    try simp only [Act.put, List.getElem_toArray, List.getElem_cons_succ, List.getElem_cons_zero, List.setIfInBounds_toArray, List.set_cons_zero, List.set_cons_succ]
    refine wpAnyH_take (i := 9) (v := .bool false) rfl (by kernel_rfl) (by kernel_rfl) (by kernel_rfl) (fun _ _ _ h => h) (Or.inl ⟨by rfl, fun w hSw => by (try dsimp only at hSw); go_simp⟩) (by assumption) ?_
    try simp only [Act.put, List.getElem_toArray, List.getElem_cons_succ, List.getElem_cons_zero, List.setIfInBounds_toArray, List.set_cons_zero, List.set_cons_succ]
    refine wpAnyH_take (i := 10) (v := .bool false) rfl (by kernel_rfl) (by kernel_rfl) (by kernel_rfl) (fun _ _ _ h => h) (Or.inl ⟨by rfl, fun w hSw => by (try dsimp only at hSw); go_simp⟩) (by assumption) ?_
    try simp only [Act.put, List.getElem_toArray, List.getElem_cons_succ, List.getElem_cons_zero, List.setIfInBounds_toArray, List.set_cons_zero, List.set_cons_succ]
    refine wpAnyH_take (i := 11) (v := .int .i64 (K1 : Int)) rfl (by kernel_rfl) (by kernel_rfl) (by kernel_rfl) (fun _ _ _ h => h) (Or.inl ⟨by rfl, fun w hSw => by (try dsimp only at hSw); go_simp⟩) (by assumption) ?_
    try simp only [Act.put, List.getElem_toArray, List.getElem_cons_succ, List.getElem_cons_zero, List.setIfInBounds_toArray, List.set_cons_zero, List.set_cons_succ]
    refine wpAnyH_take (i := 12) (v := (.slice Al L1.length cl)) rfl (by kernel_rfl) (by kernel_rfl) (by kernel_rfl) (fun _ _ _ h => h) (Or.inl ⟨by rfl, fun w hSw => by (try dsimp only at hSw); go_simp⟩) (by assumption) ?_
    try simp only [Act.put, List.getElem_toArray, List.getElem_cons_succ, List.getElem_cons_zero, List.setIfInBounds_toArray, List.set_cons_zero, List.set_cons_succ]
    refine wpAnyH_ready (rs := [13]) (by kernel_rfl) (by simp) ?_
    refine AllReadyH.cons rfl (fun K hK => ?_) AllReadyH.nil
    go_simp
    refine hK.out _ _ hHeld (fun hHeld => ?_)
    clear hK K
    try simp only [Act.put, List.getElem_toArray, List.getElem_cons_succ, List.getElem_cons_zero, List.setIfInBounds_toArray, List.set_cons_zero, List.set_cons_succ]
    refine wpAnyH_take (i := 14) (v := .bool false) rfl (by kernel_rfl) (by kernel_rfl) (by kernel_rfl) (fun _ _ _ h => h) (Or.inl ⟨by rfl, fun w hSw => by (try dsimp only at hSw); go_simp⟩) (by assumption) ?_
    try simp only [Act.put, List.getElem_toArray, List.getElem_cons_succ, List.getElem_cons_zero, List.setIfInBounds_toArray, List.set_cons_zero, List.set_cons_succ]
    refine wpAnyH_take (i := 15) (v := .bool false) rfl (by kernel_rfl) (by kernel_rfl) (by kernel_rfl) (fun _ _ _ h => h) (Or.inl ⟨by rfl, fun w hSw => by (try dsimp only at hSw); go_simp⟩) (by assumption) ?_
    try simp only [Act.put, List.getElem_toArray, List.getElem_cons_succ, List.getElem_cons_zero, List.setIfInBounds_toArray, List.set_cons_zero, List.set_cons_succ]
    refine wpAnyH_take (i := 16) (v := .bool false) rfl (by kernel_rfl) (by kernel_rfl) (by kernel_rfl) (fun _ _ _ h => h) (Or.inl ⟨by rfl, fun w hSw => by (try dsimp only at hSw); go_simp⟩) (by assumption) ?_
    try simp only [Act.put, List.getElem_toArray, List.getElem_cons_succ, List.getElem_cons_zero, List.setIfInBounds_toArray, List.set_cons_zero, List.set_cons_succ]
    refine wpAnyH_take (i := 17) (v := (.agg #[.int .i64 a1, .int .i64 b1, .string s1])) rfl (by kernel_rfl) (by kernel_rfl) (by kernel_rfl) (fun _ _ _ h => h) (Or.inl ⟨by rfl, fun w hSw => by (try dsimp only at hSw); go_simp⟩) (by assumption) ?_
    try simp only [Act.put, List.getElem_toArray, List.getElem_cons_succ, List.getElem_cons_zero, List.setIfInBounds_toArray, List.set_cons_zero, List.set_cons_succ]
    refine wpAnyH_take (i := 20) (v := (.agg #[.int .i64 a1, .int .i64 b1, .string s1])) rfl (by kernel_rfl) (by kernel_rfl) (by kernel_rfl) (fun _ _ _ h => h) (Or.inl ⟨by rfl, fun w hSw => by (try dsimp only at hSw); go_simp⟩) (by assumption) ?_
    try simp only [Act.put, List.getElem_toArray, List.getElem_cons_succ, List.getElem_cons_zero, List.setIfInBounds_toArray, List.set_cons_zero, List.set_cons_succ]
    refine wpAnyH_ready (rs := [18]) (by kernel_rfl) (by simp) ?_
    refine AllReadyH.cons rfl (fun K hK => ?_) AllReadyH.nil
    go_simp
    refine (CT'.out _).mono ?_
    rintro e x3 ⟨rfl, e3⟩
    have mm := bstep hHeld.1 e3
    simp only []
    refine hK.out _ _ (HS.out _ mm) (fun hHeld => ?_)
    clear hK K
    try simp only [Act.put, List.getElem_toArray, List.getElem_cons_succ, List.getElem_cons_zero, List.setIfInBounds_toArray, List.set_cons_zero, List.set_cons_succ]
    refine wpAnyH_ready (rs := [19]) (by kernel_rfl) (by simp) ?_
    refine AllReadyH.cons rfl (fun K hK => ?_) AllReadyH.nil
    go_simp
    refine (CTT'.out _).mono ?_
    rintro e x4 ⟨rfl, e4⟩
    have mm := bstep hHeld.1 e4
    simp only []
    refine hK.out _ _ (HS.out _ mm) (fun hHeld => ?_)
    clear hK K
    try simp only [Act.put, List.getElem_toArray, List.getElem_cons_succ, List.getElem_cons_zero, List.setIfInBounds_toArray, List.set_cons_zero, List.set_cons_succ]
    refine wpAnyH_ready (rs := [21]) (by kernel_rfl) (by simp) ?_
    refine AllReadyH.cons rfl (fun K hK => ?_) AllReadyH.nil
    go_simp
    refine (CS1'.out _).mono ?_
    rintro e x5 ⟨rfl, e5⟩
    have mm := bstep hHeld.1 e5
    simp only []
    refine hK.out _ _ (HS.out _ mm) (fun hHeld => ?_)
    clear hK K
    try simp only [Act.put, List.getElem_toArray, List.getElem_cons_succ, List.getElem_cons_zero, List.setIfInBounds_toArray, List.set_cons_zero, List.set_cons_succ]
    refine wpAnyH_take (i := 22) (v := .bool false) rfl (by kernel_rfl) (by kernel_rfl) (by kernel_rfl) (fun _ _ _ h => h) (Or.inl ⟨by rfl, fun w hSw => by (try dsimp only at hSw); go_simp⟩) (by assumption) ?_
    try simp only [Act.put, List.getElem_toArray, List.getElem_cons_succ, List.getElem_cons_zero, List.setIfInBounds_toArray, List.set_cons_zero, List.set_cons_succ]
    refine wpAnyH_take (i := 23) (v := .bool false) rfl (by kernel_rfl) (by kernel_rfl) (by kernel_rfl) (fun _ _ _ h => h) (Or.inl ⟨by rfl, fun w hSw => by (try dsimp only at hSw); go_simp⟩) (by assumption) ?_
    try simp only [Act.put, List.getElem_toArray, List.getElem_cons_succ, List.getElem_cons_zero, List.setIfInBounds_toArray, List.set_cons_zero, List.set_cons_succ]
    refine wpAnyH_take (i := 24) (v := undef) rfl (by kernel_rfl) (by kernel_rfl) (by kernel_rfl) (fun _ _ _ h => h) (Or.inr ⟨by kernel_rfl, rfl⟩) (by assumption) ?_
    try simp only [Act.put, List.getElem_toArray, List.getElem_cons_succ, List.getElem_cons_zero, List.setIfInBounds_toArray, List.set_cons_zero, List.set_cons_succ]
    refine wpAnyH_take (i := 25) (v := undef) rfl (by kernel_rfl) (by kernel_rfl) (by kernel_rfl) (fun _ _ _ h => h) (Or.inr ⟨by kernel_rfl, rfl⟩) (by assumption) ?_
    try simp only [Act.put, List.getElem_toArray, List.getElem_cons_succ, List.getElem_cons_zero, List.setIfInBounds_toArray, List.set_cons_zero, List.set_cons_succ]
    refine wpAnyH_take (i := 26) (v := .bool false) rfl (by kernel_rfl) (by kernel_rfl) (by kernel_rfl) (fun _ _ _ h => h) (Or.inl ⟨by rfl, fun w hSw => by (try dsimp only at hSw); go_simp⟩) (by assumption) ?_
    try simp only [Act.put, List.getElem_toArray, List.getElem_cons_succ, List.getElem_cons_zero, List.setIfInBounds_toArray, List.set_cons_zero, List.set_cons_succ]
    refine wpAnyH_take (i := 27) (v := .bool false) rfl (by kernel_rfl) (by kernel_rfl) (by kernel_rfl) (fun _ _ _ h => h) (Or.inl ⟨by rfl, fun w hSw => by (try dsimp only at hSw); go_simp⟩) (by assumption) ?_
    try simp only [Act.put, List.getElem_toArray, List.getElem_cons_succ, List.getElem_cons_zero, List.setIfInBounds_toArray, List.set_cons_zero, List.set_cons_succ]
    refine wpAnyH_take (i := 28) (v := undef) rfl (by kernel_rfl) (by kernel_rfl) (by kernel_rfl) (fun _ _ _ h => h) (Or.inr ⟨by kernel_rfl, rfl⟩) (by assumption) ?_
    try simp only [Act.put, List.getElem_toArray, List.getElem_cons_succ, List.getElem_cons_zero, List.setIfInBounds_toArray, List.set_cons_zero, List.set_cons_succ]
    refine wpAnyH_take (i := 29) (v := undef) rfl (by kernel_rfl) (by kernel_rfl) (by kernel_rfl) (fun _ _ _ h => h) (Or.inr ⟨by kernel_rfl, rfl⟩) (by assumption) ?_
    try simp only [Act.put, List.getElem_toArray, List.getElem_cons_succ, List.getElem_cons_zero, List.setIfInBounds_toArray, List.set_cons_zero, List.set_cons_succ]
    refine wpAnyH_take (i := 30) (v := undef) rfl (by kernel_rfl) (by kernel_rfl) (by kernel_rfl) (fun _ _ _ h => h) (Or.inr ⟨by kernel_rfl, rfl⟩) (by assumption) ?_
    try simp only [Act.put, List.getElem_toArray, List.getElem_cons_succ, List.getElem_cons_zero, List.setIfInBounds_toArray, List.set_cons_zero, List.set_cons_succ]
    refine wpAnyH_take (i := 31) (v := .bool false) rfl (by kernel_rfl) (by kernel_rfl) (by kernel_rfl) (fun _ _ _ h => h) (Or.inl ⟨by rfl, fun w hSw => by (try dsimp only at hSw); go_simp⟩) (by assumption) ?_
    try simp only [Act.put, List.getElem_toArray, List.getElem_cons_succ, List.getElem_cons_zero, List.setIfInBounds_toArray, List.set_cons_zero, List.set_cons_succ]
    refine wpAnyH_take (i := 32) (v := .bool false) rfl (by kernel_rfl) (by kernel_rfl) (by kernel_rfl) (fun _ _ _ h => h) (Or.inl ⟨by rfl, fun w hSw => by (try dsimp only at hSw); go_simp⟩) (by assumption) ?_
    try simp only [Act.put, List.getElem_toArray, List.getElem_cons_succ, List.getElem_cons_zero, List.setIfInBounds_toArray, List.set_cons_zero, List.set_cons_succ]
    refine wpAnyH_done (by kernel_rfl) ?_ _
    refine NoPanic.normal ?_
    have b : Below wn.heap.size wn _ := hHeld.1
    replace hb := bstep hb b
    replace lr := lr.step b
    replace lcap := lcap.step b
    replace g9 := g9.below b g9.lt
    replace g12 := g12.below b g12.lt
    clear b hHeld HS mm
    obtain ⟨c0, c1, c2, c3, c4, c5⟩ := cells3 g9
    obtain ⟨d0, d1, d2, d3, d4, d5⟩ := cells3 g12
    go_wp2_with fail
    clear c0 c1 c2 c3 c4 c5 d0 d1 d2 d3 d4 d5
    refine (CMU'.out _).mono ?_
    rintro e wn ⟨rfl, b⟩
    replace hb := bstep hb b
    replace lr := lr.step b
    replace lcap := lcap.step b
    replace g9 := g9.below b g9.lt
    replace g12 := g12.below b g12.lt
    clear b
    have b := balloc wn (.cells #[.int .i64 a4, .int .i64 b4, .string s4] 26)
    have g16 := Blk.new wn 26 #[.int .i64 a4, .int .i64 b4, .string s4]
    replace hb := bstep hb b
    replace lr := lr.step b
    replace lcap := lcap.step b
    replace g9 := g9.below b g9.lt
    replace g12 := g12.below b g12.lt
    clear b
    obtain ⟨c0, c1, c2, c3, c4, c5⟩ := cells3 g9
    obtain ⟨d0, d1, d2, d3, d4, d5⟩ := cells3 g12
    obtain ⟨i0, i1, i2, i3, i4, i5⟩ := cells3 g16
    go_wp2_with fail
    clear c0 c1 c2 c3 c4 c5 d0 d1 d2 d3 d4 d5 i0 i1 i2 i3 i4 i5
    generalize hW : wn.alloc (.cells #[.int .i64 a4, .int .i64 b4, .string s4] 26) = Wg16 at *
    generalize wn.heap.size = xg16 at *
    clear hW
    have HS : Hid (∀ w', Below Wg16.heap.size Wg16 w' → (Below Wg16.heap.size Wg16 w' ∧ w'.cell? ⟨xg16, 0, none⟩ = some (.int .i64 a4) ∧ w'.cell? ⟨xg16, 1, none⟩ = some (.int .i64 b4) ∧ w'.cell? ⟨xg16, 2, none⟩ = some (.string s4) ∧ w'.cell? ⟨xg12, 0, none⟩ = some (.int .i64 a2) ∧ w'.cell? ⟨xg12, 1, none⟩ = some (.int .i64 b2) ∧ w'.cell? ⟨xg12, 2, none⟩ = some (.string s2))) := Lib.hid fun w' hb' => by
      obtain ⟨k0, k1, k2, _, _, _⟩ := cells3 (g16.below hb' g16.lt)
      obtain ⟨l0, l1, l2, _, _, _⟩ := cells3 (g12.below hb' g12.lt)
      exact ⟨hb', k0, k1, k2, l0, l1, l2⟩
    go_region_held3 (fun w' => Below Wg16.heap.size Wg16 w' ∧ w'.cell? ⟨xg16, 0, none⟩ = some (.int .i64 a4) ∧ w'.cell? ⟨xg16, 1, none⟩ = some (.int .i64 b4) ∧ w'.cell? ⟨xg16, 2, none⟩ = some (.string s4) ∧ w'.cell? ⟨xg12, 0, none⟩ = some (.int .i64 a2) ∧ w'.cell? ⟨xg12, 1, none⟩ = some (.int .i64 b2) ∧ w'.cell? ⟨xg12, 2, none⟩ = some (.string s2))
      ((refine HS.out _ ?_; first | exact (Below.refl _ _).drew | assumption))
      (first
        | (go_at_call 12; (with_reducible refine (CRP'.out _).mono ?_); rintro e xp ⟨rp, rfl, hrp, bp⟩; have mp := bstep (And.left ‹Below Wg16.heap.size Wg16 _ ∧ _›) bp; have v5 := prod_left HL1.out HL2.out HM.out HR.out hrp; have v6 : decide (K1 < rp) = false := (by simp; omega))
        | (go_at_call 12; (with_reducible refine (CRO'.out _).mono ?_); rintro e xq ⟨ro, rfl, hro, bq⟩; have mq := bstep (And.left ‹Below Wg16.heap.size Wg16 _ ∧ _›) bq; have v7 := prod_right HL2.out hro hrp; have v8 : decide (ro < rp) = false := (by simp; omega)))
    have b := mq
    replace hb := bstep hb b
    replace lr := lr.step b
    replace lcap := lcap.step b
    replace g9 := g9.below b g9.lt
    replace g12 := g12.below b g12.lt
    replace g16 := g16.below b g16.lt
    clear b mq mp bq bp HS
    obtain ⟨c0, c1, c2, c3, c4, c5⟩ := cells3 g9
    obtain ⟨d0, d1, d2, d3, d4, d5⟩ := cells3 g12
    obtain ⟨i0, i1, i2, i3, i4, i5⟩ := cells3 g16
    go_wp2_with fail
    clear c0 c1 c2 c3 c4 c5 d0 d1 d2 d3 d4 d5 i0 i1 i2 i3 i4 i5
    refine (CI'.out _).mono ?_
    rintro e wn ⟨hcase, b⟩
    replace hb := bstep hb b
    replace lr := lr.step b
    replace lcap := lcap.step b
    replace g9 := g9.below b g9.lt
    replace g12 := g12.below b g12.lt
    replace g16 := g16.below b g16.lt
    clear b
    rcases hcase with ⟨rfl, hlt⟩ | ⟨D, rfl, hD⟩
    · exact absurd (hlt _ HR.out) (Nat.lt_irrefl _)
    · have OKD : GridOk K1 D := ⟨hD.2.1, by omega, by rw [hD.1]; omega, by rw [hD.1]; exact Nat.le_trans (Nat.mul_le_mul q5 q5) (by omega)⟩
      have CD := fun W => gmul_ok (w := W) OKD HOK1.out HI.out.symm (by rw [hD.1]; exact Nat.le_trans (Nat.mul_le_mul q5 q5) (by omega))
      rw [inv_mul_left hD HL1.out HI.out] at CD
      have CI2 := fun W => ginv_any (w := W) OKD hD.1
      unfold InvEnds at CI2
      have HX := Lib.hid (inv_inv hD HL1.out HI.out)
      have HY := Lib.hid fun C (hC : InvIs K1 D C) => inv_back hD HL1.out HI.out hC
      have CS := fun W => gsame_any K1 K1 (unitG K1) (unitG K1) W
      rw [sameG_self'] at CS
      have CU := CU'.out
      obtain ⟨a5, b5, s5, g5⟩ := gv_parts K1 D
      obtain ⟨a6, b6, s6, g6⟩ := gv_parts K1 (unitG K1)
      simp only [g1, g5, g6] at CD
      simp only [g5] at CI2
      simp only [g6] at CS CU
      rw [g5]
      have CD' := Lib.hid CD
      have CS' := Lib.hid CS
      have CU2 := Lib.hid CU
      have CI3 := Lib.hid CI2
      clear CD CS CU CI2 hD OKD g5 g6
      have b := balloc wn (.cells #[.int .i64 a5, .int .i64 b5, .string s5] 26)
      have g18 := Blk.new wn 26 #[.int .i64 a5, .int .i64 b5, .string s5]
      replace hb := bstep hb b
      replace lr := lr.step b
      replace lcap := lcap.step b
      replace g9 := g9.below b g9.lt
      replace g12 := g12.below b g12.lt
      replace g16 := g16.below b g16.lt
      clear b
      obtain ⟨c0, c1, c2, c3, c4, c5⟩ := cells3 g9
      obtain ⟨d0, d1, d2, d3, d4, d5⟩ := cells3 g12
      obtain ⟨i0, i1, i2, i3, i4, i5⟩ := cells3 g16
      obtain ⟨j0, j1, j2, j3, j4, j5⟩ := cells3 g18
      go_wp2_with fail
      clear c0 c1 c2 c3 c4 c5 d0 d1 d2 d3 d4 d5 i0 i1 i2 i3 i4 i5 j0 j1 j2 j3 j4 j5
      generalize hW : wn.alloc (.cells #[.int .i64 a5, .int .i64 b5, .string s5] 26) = Wg18 at *
      generalize wn.heap.size = xg18 at *
      clear hW
      refine (CI3.out _).mono ?_
      rintro e wn ⟨hcase, b⟩
      replace hb := bstep hb b
      replace lr := lr.step b
      replace lcap := lcap.step b
      replace g9 := g9.below b g9.lt
      replace g12 := g12.below b g12.lt
      replace g16 := g16.below b g16.lt
      replace g18 := g18.below b g18.lt
      clear b
      rcases hcase with ⟨rfl, hlt⟩ | ⟨C, rfl, hC⟩
      · exact absurd hlt HX.out
      · rw [HY.out C hC, g1]
        clear hC C
        have b := balloc wn (.cells #[.int .i64 a1, .int .i64 b1, .string s1] 26)
        have g20 := Blk.new wn 26 #[.int .i64 a1, .int .i64 b1, .string s1]
        replace hb := bstep hb b
        replace lr := lr.step b
        replace lcap := lcap.step b
        replace g9 := g9.below b g9.lt
        replace g12 := g12.below b g12.lt
        replace g16 := g16.below b g16.lt
        replace g18 := g18.below b g18.lt
        clear b
        obtain ⟨c0, c1, c2, c3, c4, c5⟩ := cells3 g9
        obtain ⟨d0, d1, d2, d3, d4, d5⟩ := cells3 g12
        obtain ⟨i0, i1, i2, i3, i4, i5⟩ := cells3 g16
        obtain ⟨j0, j1, j2, j3, j4, j5⟩ := cells3 g18
        obtain ⟨m0, m1, m2, m3, m4, m5⟩ := cells3 g20
        go_wp2_with fail
        clear c0 c1 c2 c3 c4 c5 d0 d1 d2 d3 d4 d5 i0 i1 i2 i3 i4 i5 j0 j1 j2 j3 j4 j5 m0 m1 m2 m3 m4 m5
        generalize hW : wn.alloc (.cells #[.int .i64 a1, .int .i64 b1, .string s1] 26) = Wg20 at *
        generalize wn.heap.size = xg20 at *
        clear hW
        refine (CD'.out _).mono ?_
        rintro e wn ⟨rfl, b⟩
        replace hb := bstep hb b
        replace lr := lr.step b
        replace lcap := lcap.step b
        replace g9 := g9.below b g9.lt
        replace g12 := g12.below b g12.lt
        replace g16 := g16.below b g16.lt
        replace g18 := g18.below b g18.lt
        replace g20 := g20.below b g20.lt
        clear b
        have b := balloc wn (.cells #[.int .i64 a6, .int .i64 b6, .string s6] 26)
        have g22 := Blk.new wn 26 #[.int .i64 a6, .int .i64 b6, .string s6]
        replace hb := bstep hb b
        replace lr := lr.step b
        replace lcap := lcap.step b
        replace g9 := g9.below b g9.lt
        replace g12 := g12.below b g12.lt
        replace g16 := g16.below b g16.lt
        replace g18 := g18.below b g18.lt
        replace g20 := g20.below b g20.lt
        clear b
        obtain ⟨c0, c1, c2, c3, c4, c5⟩ := cells3 g9
        obtain ⟨d0, d1, d2, d3, d4, d5⟩ := cells3 g12
        obtain ⟨i0, i1, i2, i3, i4, i5⟩ := cells3 g16
        obtain ⟨j0, j1, j2, j3, j4, j5⟩ := cells3 g18
        obtain ⟨m0, m1, m2, m3, m4, m5⟩ := cells3 g20
        obtain ⟨n0, n1, n2, n3, n4, n5⟩ := cells3 g22
        go_wp2_with fail
        clear c0 c1 c2 c3 c4 c5 d0 d1 d2 d3 d4 d5 i0 i1 i2 i3 i4 i5 j0 j1 j2 j3 j4 j5 m0 m1 m2 m3 m4 m5 n0 n1 n2 n3 n4 n5
        generalize hW : wn.alloc (.cells #[.int .i64 a6, .int .i64 b6, .string s6] 26) = Wg22 at *
        generalize wn.heap.size = xg22 at *
        clear hW
        refine (CU2.out _).mono ?_
        rintro e wn ⟨rfl, b⟩
        replace hb := bstep hb b
        replace lr := lr.step b
        replace lcap := lcap.step b
        replace g9 := g9.below b g9.lt
        replace g12 := g12.below b g12.lt
        replace g16 := g16.below b g16.lt
        replace g18 := g18.below b g18.lt
        replace g20 := g20.below b g20.lt
        replace g22 := g22.below b g22.lt
        clear b
        have b := balloc wn (.cells #[.int .i64 a6, .int .i64 b6, .string s6] 26)
        have g24 := Blk.new wn 26 #[.int .i64 a6, .int .i64 b6, .string s6]
        replace hb := bstep hb b
        replace lr := lr.step b
        replace lcap := lcap.step b
        replace g9 := g9.below b g9.lt
        replace g12 := g12.below b g12.lt
        replace g16 := g16.below b g16.lt
        replace g18 := g18.below b g18.lt
        replace g20 := g20.below b g20.lt
        replace g22 := g22.below b g22.lt
        clear b
        obtain ⟨c0, c1, c2, c3, c4, c5⟩ := cells3 g9
        obtain ⟨d0, d1, d2, d3, d4, d5⟩ := cells3 g12
        obtain ⟨i0, i1, i2, i3, i4, i5⟩ := cells3 g16
        obtain ⟨j0, j1, j2, j3, j4, j5⟩ := cells3 g18
        obtain ⟨m0, m1, m2, m3, m4, m5⟩ := cells3 g20
        obtain ⟨n0, n1, n2, n3, n4, n5⟩ := cells3 g22
        obtain ⟨o0, o1, o2, o3, o4, o5⟩ := cells3 g24
        go_wp2_with fail
        clear c0 c1 c2 c3 c4 c5 d0 d1 d2 d3 d4 d5 i0 i1 i2 i3 i4 i5 j0 j1 j2 j3 j4 j5 m0 m1 m2 m3 m4 m5 n0 n1 n2 n3 n4 n5 o0 o1 o2 o3 o4 o5
        generalize hW : wn.alloc (.cells #[.int .i64 a6, .int .i64 b6, .string s6] 26) = Wg24 at *
        generalize wn.heap.size = xg24 at *
        clear hW
        refine (CS1'.out _).mono ?_
        rintro e wn ⟨rfl, b⟩
        replace hb := bstep hb b
        replace lr := lr.step b
        replace lcap := lcap.step b
        replace g9 := g9.below b g9.lt
        replace g12 := g12.below b g12.lt
        replace g16 := g16.below b g16.lt
        replace g18 := g18.below b g18.lt
        replace g20 := g20.below b g20.lt
        replace g22 := g22.below b g22.lt
        replace g24 := g24.below b g24.lt
        clear b
        obtain ⟨c0, c1, c2, c3, c4, c5⟩ := cells3 g9
        obtain ⟨d0, d1, d2, d3, d4, d5⟩ := cells3 g12
        obtain ⟨i0, i1, i2, i3, i4, i5⟩ := cells3 g16
        obtain ⟨j0, j1, j2, j3, j4, j5⟩ := cells3 g18
        obtain ⟨m0, m1, m2, m3, m4, m5⟩ := cells3 g20
        obtain ⟨n0, n1, n2, n3, n4, n5⟩ := cells3 g22
        obtain ⟨o0, o1, o2, o3, o4, o5⟩ := cells3 g24
        go_wp2_with fail
        clear c0 c1 c2 c3 c4 c5 d0 d1 d2 d3 d4 d5 i0 i1 i2 i3 i4 i5 j0 j1 j2 j3 j4 j5 m0 m1 m2 m3 m4 m5 n0 n1 n2 n3 n4 n5 o0 o1 o2 o3 o4 o5
        refine (CS'.out _).mono ?_
        rintro e wn ⟨rfl, b⟩
        replace hb := bstep hb b
        replace lr := lr.step b
        replace lcap := lcap.step b
        replace g9 := g9.below b g9.lt
        replace g12 := g12.below b g12.lt
        replace g16 := g16.below b g16.lt
        replace g18 := g18.below b g18.lt
        replace g20 := g20.below b g20.lt
        replace g22 := g22.below b g22.lt
        replace g24 := g24.below b g24.lt
        clear b
        obtain ⟨c0, c1, c2, c3, c4, c5⟩ := cells3 g9
        obtain ⟨d0, d1, d2, d3, d4, d5⟩ := cells3 g12
        obtain ⟨i0, i1, i2, i3, i4, i5⟩ := cells3 g16
        obtain ⟨j0, j1, j2, j3, j4, j5⟩ := cells3 g18
        obtain ⟨m0, m1, m2, m3, m4, m5⟩ := cells3 g20
        obtain ⟨n0, n1, n2, n3, n4, n5⟩ := cells3 g22
        obtain ⟨o0, o1, o2, o3, o4, o5⟩ := cells3 g24
        go_wp2_with fail
        clear c0 c1 c2 c3 c4 c5 d0 d1 d2 d3 d4 d5 i0 i1 i2 i3 i4 i5 j0 j1 j2 j3 j4 j5 m0 m1 m2 m3 m4 m5 n0 n1 n2 n3 n4 n5 o0 o1 o2 o3 o4 o5
        go_ret
        exact ⟨rfl, hb⟩
theorem ranks_OD (u1 u2 : UInt8) (A1 A2 : Option Addr) (n1 c1 n2 c2 : Nat) (rows more : List (List UInt8)) (w : World) (h1 : Rds w w.heap.size A1 n1 rows) (h2 : Rds w w.heap.size A2 n2 more) (z1 : n1 ≤ c1 ∧ c1 ≤ maxLen) (z2 : n2 ≤ c2 ∧ c2 ≤ maxLen) (hf1 : few7B rows = true) (hf2 : few7B more = true) (hM : u1.toNat % 31 = (madeL (u2.toNat % 31) more).length) (hI : (madeL (u1.toNat % 31) rows).length = u1.toNat % 31) (hK6 : u1.toNat % 31 ≤ 6) :
    Calls Try.prog 4 #[.int .u8 (bv u1), .slice A1 n1 c1, .int .u8 (bv u2), .slice A2 n2 c2] w fun e w' => e = .returned (.bool true) ∧ Below w.heap.size w w' := by
  unfold maxLen at z1 z2
  obtain ⟨z3, z4⟩ := z1
  obtain ⟨z5, z6⟩ := z2
  have HF1 := Lib.hid hf1
  have HF2 := Lib.hid hf2
  have q1 := few7_len hf1
  have q2 := few7_len hf2
  have q3 : n1 ≤ 30 := by have := h1.1; omega
  have q4 : n2 ≤ 30 := by have := h2.1; omega
  have q5 : u1.toNat % 31 ≤ 30 := by have := Nat.mod_lt u1.toNat (show 31 > 0 by omega); omega
  have q6 : u2.toNat % 31 ≤ 30 := by have := Nat.mod_lt u2.toNat (show 31 > 0 by omega); omega
  have CM1 := fun W (h : Rds W W.heap.size A1 n1 rows) => made_any (u := u1) (c := c1) h (Nat.le_refl _) q3
  have CM2 := fun W (h : Rds W W.heap.size A2 n2 more) => made_any (u := u2) (c := c2) h (Nat.le_refl _) q4
  have OK1 := made_ok q5 q1
  have OK2 := made_ok q6 q2
  have q7 : (madeL (u1.toNat % 31) rows).length ≤ 30 := by rw [made_len]; exact q1
  have q8 : (madeL (u2.toNat % 31) more).length ≤ 30 := by rw [made_len]; exact q2
  unfold MadeEnds at CM1 CM2
  clear hf1 hf2 q1 q2 q3 q4
  generalize madeL (u1.toNat % 31) rows = L1 at *
  generalize u1.toNat % 31 = K1 at *
  generalize madeL (u2.toNat % 31) more = L2 at *
  generalize u2.toNat % 31 = K2 at *
  have CR1 := fun W => grank_any (w := W) OK1
  have CT := fun W => gturned_any (w := W) OK1
  have OKT := turnL_ok OK1
  have HL1 := Lib.hid OK1.1
  have HOK1 := Lib.hid OK1
  obtain ⟨a1, b1, s1, g1⟩ := gv_parts K1 L1
  obtain ⟨a2, b2, s2, g2⟩ := gv_parts K2 L2
  obtain ⟨a3, b3, s3, g3⟩ := gv_parts L1.length (turnL K1 L1)
  have q9 : L1.length * K2 ≤ 30 * 30 := Nat.mul_le_mul q7 q6
  have CMU := fun W => gmul_ok (w := W) OK1 OK2 hM (by omega)
  have OKP : GridOk K2 (mulL L1 L2 K2) := ⟨mulL_lenB _ _ _, by omega, by rw [mulL_len]; omega, by rw [mulL_len]; omega⟩
  have HL2 := Lib.hid OK2.1
  have t1 : ((K1 : Int) != (L2.length : Int)) = false := by rw [bne_eq_false_iff_eq]; omega
  obtain ⟨a4, b4, s4, g4⟩ := gv_parts K2 (mulL L1 L2 K2)
  clear q9
  have OKO := Lib.hid OK2.1
  have CI := fun W => ginv_any (w := W) OK1 hI
  unfold InvEnds at CI
  have HI := Lib.hid hI
  have t2 : ((K1 : Int) != (L1.length : Int)) = false := by rw [bne_eq_false_iff_eq]; omega
  have t2' : ((K1 : Int) == (L1.length : Int)) = true := by rw [beq_iff_eq]; omega
  have HA1 : Hid (lenB L1.length L1 = true) := Lib.hid (by rw [hI]; exact OK1.1)
  have CU := fun W => gunitn_ok K1 W (by omega)
  have CRT := fun W => grank_any (w := W) OKT
  have CTT := fun W => gturned_any (w := W) OKT
  rw [turn_turn OK1.1, turnL_len] at CTT
  have CS1 := fun W => gsame_any K1 K1 L1 L1 W
  rw [sameG_self'] at CS1
  have CRP := fun W => grank_any (w := W) OKP
  have CRO := fun W => grank_any (w := W) OK2
  simp only [g1, g2, g3, gv_zero, g4] at CM1
  simp only [g1, g2, g3, gv_zero, g4] at CM2
  simp only [g1, g2, g3, gv_zero, g4] at CR1
  simp only [g1, g2, g3, gv_zero, g4] at CT
  simp only [g1, g2, g3, gv_zero, g4] at CMU
  simp only [g1, g2, g3, gv_zero, g4] at CI
  simp only [g1, g2, g3, gv_zero, g4] at CRT
  simp only [g1, g2, g3, gv_zero, g4] at CTT
  simp only [g1, g2, g3, gv_zero, g4] at CS1
  simp only [g1, g2, g3, gv_zero, g4] at CRP
  simp only [g1, g2, g3, gv_zero, g4] at CRO
  have CM1' := Lib.hid CM1
  have CM2' := Lib.hid CM2
  have CR1' := Lib.hid CR1
  have CT' := Lib.hid CT
  have CMU' := Lib.hid CMU
  have CI' := Lib.hid CI
  have CRT' := Lib.hid CRT
  have CTT' := Lib.hid CTT
  have CS1' := Lib.hid CS1
  have CRP' := Lib.hid CRP
  have CRO' := Lib.hid CRO
  have CU' := Lib.hid CU
  clear CU
  have HM := Lib.hid hM
  clear CM1 CM2 CR1 CT CMU CI CRT CTT CS1 CRP CRO hM hI OK1 OK2 OKT OKP
  go_enter Try.func4, Try.ntmps4
  go_wp2_with fail
  refine (awake7 _).mono ?_
  rintro e w1 ⟨rfl, hb⟩
  replace h1 := h1.step hb
  replace h2 := h2.step hb
  go_wp2_with fail
  refine (few7_any h1 (by omega)).mono ?_
  rintro e w' ⟨rfl, rfl⟩
  rw [HF1.out]
  go_wp2_with fail
  refine (few7_any h2 (by omega)).mono ?_
  rintro e w' ⟨rfl, rfl⟩
  rw [HF2.out]
  go_wp2_with fail
  refine (CM1'.out _ h1).mono ?_
  rintro e wn ⟨Al, ml, cl, rfl, lr, y1, y2, lcap, b⟩
  replace hb := bstep hb b
  replace h2 := h2.step b
  clear b
  obtain rfl : L1.length = ml := lr.1
  clear h1
  have b := balloc wn (.cells #[.int .i64 a1, .int .i64 b1, .string s1] 26)
  have g9 := Blk.new wn 26 #[.int .i64 a1, .int .i64 b1, .string s1]
  replace hb := bstep hb b
  replace h2 := h2.step b
  replace lr := lr.step b
  replace lcap := lcap.step b
  clear b
  obtain ⟨c0, c1, c2, c3, c4, c5⟩ := cells3 g9
  go_wp2_with fail
  clear c0 c1 c2 c3 c4 c5
  generalize hW : wn.alloc (.cells #[.int .i64 a1, .int .i64 b1, .string s1] 26) = Wg9 at *
  generalize wn.heap.size = xg9 at *
  clear hW
  refine (CM2'.out _ h2).mono ?_
  rintro e wn ⟨Ak, mk, ck, rfl, kr, y3, y4, _, b⟩
  clear h2
  replace hb := bstep hb b
  replace lr := lr.step b
  replace lcap := lcap.step b
  replace g9 := g9.below b g9.lt
  clear b
  obtain rfl : L2.length = mk := kr.1
  clear kr
  have b := balloc wn (.cells #[.int .i64 a2, .int .i64 b2, .string s2] 26)
  have g12 := Blk.new wn 26 #[.int .i64 a2, .int .i64 b2, .string s2]
  replace hb := bstep hb b
  replace lr := lr.step b
  replace lcap := lcap.step b
  replace g9 := g9.below b g9.lt
  clear b
  obtain ⟨c0, c1, c2, c3, c4, c5⟩ := cells3 g9
  obtain ⟨d0, d1, d2, d3, d4, d5⟩ := cells3 g12
  go_wp2_with fail
  clear c0 c1 c2 c3 c4 c5 d0 d1 d2 d3 d4 d5
  generalize hW : wn.alloc (.cells #[.int .i64 a2, .int .i64 b2, .string s2] 26) = Wg12 at *
  generalize wn.heap.size = xg12 at *
  clear hW
  refine (CR1'.out _).mono ?_
  rintro e wn ⟨r, rfl, hr, b⟩
  replace hb := bstep hb b
  replace lr := lr.step b
  replace lcap := lcap.step b
  replace g9 := g9.below b g9.lt
  replace g12 := g12.below b g12.lt
  clear b
  have HR := Lib.hid hr
  clear hr
  have v1 := (rk_wide HL1.out HR.out).1
  have v2 := (rk_wide HL1.out HR.out).2
  have v3 : decide (K1 < r) = false := by simp; omega
  have v4 : decide (L1.length < r) = false := by simp; omega
  rcases Nat.lt_or_ge r K1 with hrk | hrk
  · have v9 : ((r : Int) == (K1 : Int)) = false := by rw [beq_eq_false_iff_ne]; omega
    obtain ⟨c0, c1, c2, c3, c4, c5⟩ := cells3 g9
    obtain ⟨d0, d1, d2, d3, d4, d5⟩ := cells3 g12
    have HS : Hid (∀ w', Below wn.heap.size wn w' → (Below wn.heap.size wn w' ∧ w'.cell? ⟨xg9, 0, none⟩ = some (.int .i64 a1) ∧ w'.cell? ⟨xg9, 1, none⟩ = some (.int .i64 b1) ∧ w'.cell? ⟨xg9, 2, none⟩ = some (.string s1))) := Lib.hid fun w' hb' => by
      obtain ⟨k0, k1, k2, _, _, _⟩ := cells3 (g9.below hb' g9.lt)
      exact ⟨hb', k0, k1, k2⟩
    go_wp2_with fail
    clear c0 c1 c2 c3 c4 c5 d0 d1 d2 d3 d4 d5
    refine wp_region_noPanic ?_
    refine wp_region_held_drew (S := fun w' => Below wn.heap.size wn w' ∧ w'.cell? ⟨xg9, 0, none⟩ = some (.int .i64 a1) ∧ w'.cell? ⟨xg9, 1, none⟩ = some (.int .i64 b1) ∧ w'.cell? ⟨xg9, 2, none⟩ = some (.string s1)) (by kernel_rfl) (HS.out _ (Below.refl _ _).drew) (fun hHeld => ?_)
    refine wpAnyH_take (i := 0) (v := .int .i64 (r : Int)) rfl (by kernel_rfl) (by kernel_rfl) (by kernel_rfl) (fun _ _ _ h => h) (Or.inl ⟨by rfl, fun w hSw => by (try dsimp only at hSw); go_simp⟩) (by assumption) ?_
    try simp only [Act.put, List.getElem_toArray, List.getElem_cons_succ, List.getElem_cons_zero, List.setIfInBounds_toArray, List.set_cons_zero, List.set_cons_succ]
    refine wpAnyH_take (i := 1) (v := (.agg #[.int .i64 a1, .int .i64 b1, .string s1])) rfl (by kernel_rfl) (by kernel_rfl) (by kernel_rfl) (fun _ _ _ h => h) (Or.inl ⟨by rfl, fun w hSw => by (try dsimp only at hSw); go_simp⟩) (by assumption) ?_
    try simp only [Act.put, List.getElem_toArray, List.getElem_cons_succ, List.getElem_cons_zero, List.setIfInBounds_toArray, List.set_cons_zero, List.set_cons_succ]
    refine wpAnyH_ready (rs := [2]) (by kernel_rfl) (by simp) ?_
    refine AllReadyH.cons rfl (fun K hK => ?_) AllReadyH.nil
    go_simp
    refine (CT'.out _).mono ?_
    rintro e x1 ⟨rfl, e1⟩
    have mm := bstep hHeld.1 e1
    simp only []
    refine hK.out _ _ (HS.out _ mm) (fun hHeld => ?_)
    clear hK K
    try simp only [Act.put, List.getElem_toArray, List.getElem_cons_succ, List.getElem_cons_zero, List.setIfInBounds_toArray, List.set_cons_zero, List.set_cons_succ]
    refine wpAnyH_ready (rs := [3]) (by kernel_rfl) (by simp) ?_
    refine AllReadyH.cons rfl (fun K hK => ?_) AllReadyH.nil
    go_simp
    refine (CRT'.out _).mono ?_
    rintro e x2 ⟨rt, rfl, hrt, e2⟩
    have mm := bstep hHeld.1 e2
    obtain rfl : r = rt := (turn_rank HL1.out HR.out hrt).symm
    simp only []
    refine hK.out _ _ (HS.out _ mm) (fun hHeld => ?_)
    clear hK K
    try simp only [Act.put, List.getElem_toArray, List.getElem_cons_succ, List.getElem_cons_zero, List.setIfInBounds_toArray, List.set_cons_zero, List.set_cons_succ]
    refine wpAnyH_take (i := 4) (v := .bool false) rfl (by kernel_rfl) (by kernel_rfl) (by kernel_rfl) (fun _ _ _ h => h) (Or.inl ⟨by rfl, fun w hSw => by (try dsimp only at hSw); go_simp⟩) (by assumption) ?_
    try simp only [Act.put, List.getElem_toArray, List.getElem_cons_succ, List.getElem_cons_zero, List.setIfInBounds_toArray, List.set_cons_zero, List.set_cons_succ]
    refine wpAnyH_take (i := 5) (v := .bool false) rfl (by kernel_rfl) (by kernel_rfl) (by kernel_rfl) (fun _ _ _ h => h) (Or.inl ⟨by rfl, fun w hSw => by (try dsimp only at hSw); go_simp⟩) (by assumption) ?_
    try simp only [Act.put, List.getElem_toArray, List.getElem_cons_succ, List.getElem_cons_zero, List.setIfInBounds_toArray, List.set_cons_zero, List.set_cons_succ]
    refine wpAnyH_take (i := 6) (v := .int .i64 (r : Int)) rfl (by kernel_rfl) (by kernel_rfl) (by kernel_rfl) (fun _ _ _ h => h) (Or.inl ⟨by rfl, fun w hSw => by (try dsimp only at hSw); go_simp⟩) (by assumption) ?_
    try simp only [Act.put, List.getElem_toArray, List.getElem_cons_succ, List.getElem_cons_zero, List.setIfInBounds_toArray, List.set_cons_zero, List.set_cons_succ]
    refine wpAnyH_take (i := 7) (v := .int .i64 (K1 : Int)) rfl (by kernel_rfl) (by kernel_rfl) (by kernel_rfl) (fun _ _ _ h => h) (Or.inl ⟨by rfl, fun w hSw => by (try dsimp only at hSw); go_simp⟩) (by assumption) ?_
    try simp only [Act.put, List.getElem_toArray, List.getElem_cons_succ, List.getElem_cons_zero, List.setIfInBounds_toArray, List.set_cons_zero, List.set_cons_succ]
    refine wpAnyH_take (i := 8) (v := .bool false) rfl (by kernel_rfl) (by kernel_rfl) (by kernel_rfl) (fun _ _ _ h => h) (Or.inl ⟨by rfl, fun w hSw => by (try dsimp only at hSw); go_simp⟩) (by assumption) ?_
    try simp only [Act.put, List.getElem_toArray, List.getElem_cons_succ, List.getElem_cons_zero, List.setIfInBounds_toArray, List.set_cons_zero, List.set_cons_succ]
    refine wpAnyH_take (i := 9) (v := .bool false) rfl (by kernel_rfl) (by kernel_rfl) (by kernel_rfl) (fun _ _ _ h => h) (Or.inl ⟨by rfl, fun w hSw => by (try dsimp only at hSw); go_simp⟩) (by assumption) ?_
    try simp only [Act.put, List.getElem_toArray, List.getElem_cons_succ, List.getElem_cons_zero, List.setIfInBounds_toArray, List.set_cons_zero, List.set_cons_succ]
    refine wpAnyH_take (i := 10) (v := .bool false) rfl (by kernel_rfl) (by kernel_rfl) (by kernel_rfl) (fun _ _ _ h => h) (Or.inl ⟨by rfl, fun w hSw => by (try dsimp only at hSw); go_simp⟩) (by assumption) ?_
    try simp only [Act.put, List.getElem_toArray, List.getElem_cons_succ, List.getElem_cons_zero, List.setIfInBounds_toArray, List.set_cons_zero, List.set_cons_succ]
    refine wpAnyH_take (i := 11) (v := .int .i64 (r : Int)) rfl (by kernel_rfl) (by kernel_rfl) (by kernel_rfl) (fun _ _ _ h => h) (Or.inl ⟨by rfl, fun w hSw => by (try dsimp only at hSw); go_simp⟩) (by assumption) ?_
    try simp only [Act.put, List.getElem_toArray, List.getElem_cons_succ, List.getElem_cons_zero, List.setIfInBounds_toArray, List.set_cons_zero, List.set_cons_succ]
    refine wpAnyH_take (i := 12) (v := (.slice Al L1.length cl)) rfl (by kernel_rfl) (by kernel_rfl) (by kernel_rfl) (fun _ _ _ h => h) (Or.inl ⟨by rfl, fun w hSw => by (try dsimp only at hSw); go_simp⟩) (by assumption) ?_
    try simp only [Act.put, List.getElem_toArray, List.getElem_cons_succ, List.getElem_cons_zero, List.setIfInBounds_toArray, List.set_cons_zero, List.set_cons_succ]
    refine wpAnyH_ready (rs := [13]) (by kernel_rfl) (by simp) ?_
    refine AllReadyH.cons rfl (fun K hK => ?_) AllReadyH.nil
    go_simp
    refine hK.out _ _ hHeld (fun hHeld => ?_)
    clear hK K
    try simp only [Act.put, List.getElem_toArray, List.getElem_cons_succ, List.getElem_cons_zero, List.setIfInBounds_toArray, List.set_cons_zero, List.set_cons_succ]
    refine wpAnyH_take (i := 14) (v := .bool false) rfl (by kernel_rfl) (by kernel_rfl) (by kernel_rfl) (fun _ _ _ h => h) (Or.inl ⟨by rfl, fun w hSw => by (try dsimp only at hSw); go_simp⟩) (by assumption) ?_
    try simp only [Act.put, List.getElem_toArray, List.getElem_cons_succ, List.getElem_cons_zero, List.setIfInBounds_toArray, List.set_cons_zero, List.set_cons_succ]
    refine wpAnyH_take (i := 15) (v := .bool false) rfl (by kernel_rfl) (by kernel_rfl) (by kernel_rfl) (fun _ _ _ h => h) (Or.inl ⟨by rfl, fun w hSw => by (try dsimp only at hSw); go_simp⟩) (by assumption) ?_
    try simp only [Act.put, List.getElem_toArray, List.getElem_cons_succ, List.getElem_cons_zero, List.setIfInBounds_toArray, List.set_cons_zero, List.set_cons_succ]
    refine wpAnyH_take (i := 16) (v := .bool false) rfl (by kernel_rfl) (by kernel_rfl) (by kernel_rfl) (fun _ _ _ h => h) (Or.inl ⟨by rfl, fun w hSw => by (try dsimp only at hSw); go_simp⟩) (by assumption) ?_
    try simp only [Act.put, List.getElem_toArray, List.getElem_cons_succ, List.getElem_cons_zero, List.setIfInBounds_toArray, List.set_cons_zero, List.set_cons_succ]
    refine wpAnyH_take (i := 17) (v := (.agg #[.int .i64 a1, .int .i64 b1, .string s1])) rfl (by kernel_rfl) (by kernel_rfl) (by kernel_rfl) (fun _ _ _ h => h) (Or.inl ⟨by rfl, fun w hSw => by (try dsimp only at hSw); go_simp⟩) (by assumption) ?_
    try simp only [Act.put, List.getElem_toArray, List.getElem_cons_succ, List.getElem_cons_zero, List.setIfInBounds_toArray, List.set_cons_zero, List.set_cons_succ]
    refine wpAnyH_take (i := 20) (v := (.agg #[.int .i64 a1, .int .i64 b1, .string s1])) rfl (by kernel_rfl) (by kernel_rfl) (by kernel_rfl) (fun _ _ _ h => h) (Or.inl ⟨by rfl, fun w hSw => by (try dsimp only at hSw); go_simp⟩) (by assumption) ?_
    try simp only [Act.put, List.getElem_toArray, List.getElem_cons_succ, List.getElem_cons_zero, List.setIfInBounds_toArray, List.set_cons_zero, List.set_cons_succ]
    refine wpAnyH_ready (rs := [18]) (by kernel_rfl) (by simp) ?_
    refine AllReadyH.cons rfl (fun K hK => ?_) AllReadyH.nil
    go_simp
    refine (CT'.out _).mono ?_
    rintro e x3 ⟨rfl, e3⟩
    have mm := bstep hHeld.1 e3
    simp only []
    refine hK.out _ _ (HS.out _ mm) (fun hHeld => ?_)
    clear hK K
    try simp only [Act.put, List.getElem_toArray, List.getElem_cons_succ, List.getElem_cons_zero, List.setIfInBounds_toArray, List.set_cons_zero, List.set_cons_succ]
    refine wpAnyH_ready (rs := [19]) (by kernel_rfl) (by simp) ?_
    refine AllReadyH.cons rfl (fun K hK => ?_) AllReadyH.nil
    go_simp
    refine (CTT'.out _).mono ?_
    rintro e x4 ⟨rfl, e4⟩
    have mm := bstep hHeld.1 e4
    simp only []
    refine hK.out _ _ (HS.out _ mm) (fun hHeld => ?_)
    clear hK K
    try simp only [Act.put, List.getElem_toArray, List.getElem_cons_succ, List.getElem_cons_zero, List.setIfInBounds_toArray, List.set_cons_zero, List.set_cons_succ]
    refine wpAnyH_ready (rs := [21]) (by kernel_rfl) (by simp) ?_
    refine AllReadyH.cons rfl (fun K hK => ?_) AllReadyH.nil
    go_simp
    refine (CS1'.out _).mono ?_
    rintro e x5 ⟨rfl, e5⟩
    have mm := bstep hHeld.1 e5
    simp only []
    refine hK.out _ _ (HS.out _ mm) (fun hHeld => ?_)
    clear hK K
    try simp only [Act.put, List.getElem_toArray, List.getElem_cons_succ, List.getElem_cons_zero, List.setIfInBounds_toArray, List.set_cons_zero, List.set_cons_succ]
    refine wpAnyH_take (i := 22) (v := .bool false) rfl (by kernel_rfl) (by kernel_rfl) (by kernel_rfl) (fun _ _ _ h => h) (Or.inl ⟨by rfl, fun w hSw => by (try dsimp only at hSw); go_simp⟩) (by assumption) ?_
    try simp only [Act.put, List.getElem_toArray, List.getElem_cons_succ, List.getElem_cons_zero, List.setIfInBounds_toArray, List.set_cons_zero, List.set_cons_succ]
    refine wpAnyH_take (i := 23) (v := .bool false) rfl (by kernel_rfl) (by kernel_rfl) (by kernel_rfl) (fun _ _ _ h => h) (Or.inl ⟨by rfl, fun w hSw => by (try dsimp only at hSw); go_simp⟩) (by assumption) ?_
    try simp only [Act.put, List.getElem_toArray, List.getElem_cons_succ, List.getElem_cons_zero, List.setIfInBounds_toArray, List.set_cons_zero, List.set_cons_succ]
    refine wpAnyH_take (i := 24) (v := undef) rfl (by kernel_rfl) (by kernel_rfl) (by kernel_rfl) (fun _ _ _ h => h) (Or.inr ⟨by kernel_rfl, rfl⟩) (by assumption) ?_
    try simp only [Act.put, List.getElem_toArray, List.getElem_cons_succ, List.getElem_cons_zero, List.setIfInBounds_toArray, List.set_cons_zero, List.set_cons_succ]
    refine wpAnyH_take (i := 25) (v := undef) rfl (by kernel_rfl) (by kernel_rfl) (by kernel_rfl) (fun _ _ _ h => h) (Or.inr ⟨by kernel_rfl, rfl⟩) (by assumption) ?_
    try simp only [Act.put, List.getElem_toArray, List.getElem_cons_succ, List.getElem_cons_zero, List.setIfInBounds_toArray, List.set_cons_zero, List.set_cons_succ]
    refine wpAnyH_take (i := 26) (v := .bool false) rfl (by kernel_rfl) (by kernel_rfl) (by kernel_rfl) (fun _ _ _ h => h) (Or.inl ⟨by rfl, fun w hSw => by (try dsimp only at hSw); go_simp⟩) (by assumption) ?_
    try simp only [Act.put, List.getElem_toArray, List.getElem_cons_succ, List.getElem_cons_zero, List.setIfInBounds_toArray, List.set_cons_zero, List.set_cons_succ]
    refine wpAnyH_take (i := 27) (v := .bool false) rfl (by kernel_rfl) (by kernel_rfl) (by kernel_rfl) (fun _ _ _ h => h) (Or.inl ⟨by rfl, fun w hSw => by (try dsimp only at hSw); go_simp⟩) (by assumption) ?_
    try simp only [Act.put, List.getElem_toArray, List.getElem_cons_succ, List.getElem_cons_zero, List.setIfInBounds_toArray, List.set_cons_zero, List.set_cons_succ]
    refine wpAnyH_take (i := 28) (v := undef) rfl (by kernel_rfl) (by kernel_rfl) (by kernel_rfl) (fun _ _ _ h => h) (Or.inr ⟨by kernel_rfl, rfl⟩) (by assumption) ?_
    try simp only [Act.put, List.getElem_toArray, List.getElem_cons_succ, List.getElem_cons_zero, List.setIfInBounds_toArray, List.set_cons_zero, List.set_cons_succ]
    refine wpAnyH_take (i := 29) (v := undef) rfl (by kernel_rfl) (by kernel_rfl) (by kernel_rfl) (fun _ _ _ h => h) (Or.inr ⟨by kernel_rfl, rfl⟩) (by assumption) ?_
    try simp only [Act.put, List.getElem_toArray, List.getElem_cons_succ, List.getElem_cons_zero, List.setIfInBounds_toArray, List.set_cons_zero, List.set_cons_succ]
    refine wpAnyH_take (i := 30) (v := undef) rfl (by kernel_rfl) (by kernel_rfl) (by kernel_rfl) (fun _ _ _ h => h) (Or.inr ⟨by kernel_rfl, rfl⟩) (by assumption) ?_
    try simp only [Act.put, List.getElem_toArray, List.getElem_cons_succ, List.getElem_cons_zero, List.setIfInBounds_toArray, List.set_cons_zero, List.set_cons_succ]
    refine wpAnyH_take (i := 31) (v := .bool false) rfl (by kernel_rfl) (by kernel_rfl) (by kernel_rfl) (fun _ _ _ h => h) (Or.inl ⟨by rfl, fun w hSw => by (try dsimp only at hSw); go_simp⟩) (by assumption) ?_
    try simp only [Act.put, List.getElem_toArray, List.getElem_cons_succ, List.getElem_cons_zero, List.setIfInBounds_toArray, List.set_cons_zero, List.set_cons_succ]
    refine wpAnyH_take (i := 32) (v := .bool false) rfl (by kernel_rfl) (by kernel_rfl) (by kernel_rfl) (fun _ _ _ h => h) (Or.inl ⟨by rfl, fun w hSw => by (try dsimp only at hSw); go_simp⟩) (by assumption) ?_
    try simp only [Act.put, List.getElem_toArray, List.getElem_cons_succ, List.getElem_cons_zero, List.setIfInBounds_toArray, List.set_cons_zero, List.set_cons_succ]
    refine wpAnyH_done (by kernel_rfl) ?_ _
    refine NoPanic.normal ?_
    have b : Below wn.heap.size wn _ := hHeld.1
    replace hb := bstep hb b
    replace lr := lr.step b
    replace lcap := lcap.step b
    replace g9 := g9.below b g9.lt
    replace g12 := g12.below b g12.lt
    clear b hHeld HS mm
    obtain ⟨c0, c1, c2, c3, c4, c5⟩ := cells3 g9
    obtain ⟨d0, d1, d2, d3, d4, d5⟩ := cells3 g12
    go_wp2_with fail
    clear c0 c1 c2 c3 c4 c5 d0 d1 d2 d3 d4 d5
    refine (CMU'.out _).mono ?_
    rintro e wn ⟨rfl, b⟩
    replace hb := bstep hb b
    replace lr := lr.step b
    replace lcap := lcap.step b
    replace g9 := g9.below b g9.lt
    replace g12 := g12.below b g12.lt
    clear b
    have b := balloc wn (.cells #[.int .i64 a4, .int .i64 b4, .string s4] 26)
    have g16 := Blk.new wn 26 #[.int .i64 a4, .int .i64 b4, .string s4]
    replace hb := bstep hb b
    replace lr := lr.step b
    replace lcap := lcap.step b
    replace g9 := g9.below b g9.lt
    replace g12 := g12.below b g12.lt
    clear b
    obtain ⟨c0, c1, c2, c3, c4, c5⟩ := cells3 g9
    obtain ⟨d0, d1, d2, d3, d4, d5⟩ := cells3 g12
    obtain ⟨i0, i1, i2, i3, i4, i5⟩ := cells3 g16
    go_wp2_with fail
    clear c0 c1 c2 c3 c4 c5 d0 d1 d2 d3 d4 d5 i0 i1 i2 i3 i4 i5
    generalize hW : wn.alloc (.cells #[.int .i64 a4, .int .i64 b4, .string s4] 26) = Wg16 at *
    generalize wn.heap.size = xg16 at *
    clear hW
    have HS : Hid (∀ w', Below Wg16.heap.size Wg16 w' → (Below Wg16.heap.size Wg16 w' ∧ w'.cell? ⟨xg16, 0, none⟩ = some (.int .i64 a4) ∧ w'.cell? ⟨xg16, 1, none⟩ = some (.int .i64 b4) ∧ w'.cell? ⟨xg16, 2, none⟩ = some (.string s4) ∧ w'.cell? ⟨xg12, 0, none⟩ = some (.int .i64 a2) ∧ w'.cell? ⟨xg12, 1, none⟩ = some (.int .i64 b2) ∧ w'.cell? ⟨xg12, 2, none⟩ = some (.string s2))) := Lib.hid fun w' hb' => by
      obtain ⟨k0, k1, k2, _, _, _⟩ := cells3 (g16.below hb' g16.lt)
      obtain ⟨l0, l1, l2, _, _, _⟩ := cells3 (g12.below hb' g12.lt)
      exact ⟨hb', k0, k1, k2, l0, l1, l2⟩
    go_region_held3 (fun w' => Below Wg16.heap.size Wg16 w' ∧ w'.cell? ⟨xg16, 0, none⟩ = some (.int .i64 a4) ∧ w'.cell? ⟨xg16, 1, none⟩ = some (.int .i64 b4) ∧ w'.cell? ⟨xg16, 2, none⟩ = some (.string s4) ∧ w'.cell? ⟨xg12, 0, none⟩ = some (.int .i64 a2) ∧ w'.cell? ⟨xg12, 1, none⟩ = some (.int .i64 b2) ∧ w'.cell? ⟨xg12, 2, none⟩ = some (.string s2))
      ((refine HS.out _ ?_; first | exact (Below.refl _ _).drew | assumption))
      (first
        | (go_at_call 12; (with_reducible refine (CRP'.out _).mono ?_); rintro e xp ⟨rp, rfl, hrp, bp⟩; have mp := bstep (And.left ‹Below Wg16.heap.size Wg16 _ ∧ _›) bp; have v5 := prod_left HL1.out HL2.out HM.out HR.out hrp; have v6 : decide (r < rp) = false := (by simp; omega))
        | (go_at_call 12; (with_reducible refine (CRO'.out _).mono ?_); rintro e xq ⟨ro, rfl, hro, bq⟩; have mq := bstep (And.left ‹Below Wg16.heap.size Wg16 _ ∧ _›) bq; have v7 := prod_right HL2.out hro hrp; have v8 : decide (ro < rp) = false := (by simp; omega)))
    have b := mq
    replace hb := bstep hb b
    replace lr := lr.step b
    replace lcap := lcap.step b
    replace g9 := g9.below b g9.lt
    replace g12 := g12.below b g12.lt
    replace g16 := g16.below b g16.lt
    clear b mq mp bq bp HS
    obtain ⟨c0, c1, c2, c3, c4, c5⟩ := cells3 g9
    obtain ⟨d0, d1, d2, d3, d4, d5⟩ := cells3 g12
    obtain ⟨i0, i1, i2, i3, i4, i5⟩ := cells3 g16
    go_wp2_with fail
    clear c0 c1 c2 c3 c4 c5 d0 d1 d2 d3 d4 d5 i0 i1 i2 i3 i4 i5
    have HD := det_full HA1.out HR.out
    have C3 := fun W (q1 : Rds W W.heap.size Al L1.length L1) (q2 : Caps W W.heap.size Al L1.length) => refdet_any L1.length W _ _ cl _ q1 q2 (Nat.le_refl _) (by omega) y1 y2 HA1.out
    generalize detL L1.length L1 = dd at *
    have C3' := Lib.hid C3
    clear C3
    obtain rfl : dd = 0 := Classical.byContradiction fun hne => by have := HD.2 hne; have := HI.out; omega
    have t7 : (bv 0 != 0) = false := rfl
    have t8 : bv 0 = 0 := rfl
    refine (C3'.out _ lr lcap).mono ?_
    rintro e wn ⟨rfl, b⟩
    replace hb := bstep hb b
    replace lr := lr.step b
    replace lcap := lcap.step b
    replace g9 := g9.below b g9.lt
    replace g12 := g12.below b g12.lt
    replace g16 := g16.below b g16.lt
    clear b
    clear C3' HD
    obtain ⟨c0, c1, c2, c3, c4, c5⟩ := cells3 g9
    obtain ⟨d0, d1, d2, d3, d4, d5⟩ := cells3 g12
    obtain ⟨i0, i1, i2, i3, i4, i5⟩ := cells3 g16
    go_wp2_with fail
    clear c0 c1 c2 c3 c4 c5 d0 d1 d2 d3 d4 d5 i0 i1 i2 i3 i4 i5
    refine (CI'.out _).mono ?_
    rintro e wn ⟨hcase, b⟩
    replace hb := bstep hb b
    replace lr := lr.step b
    replace lcap := lcap.step b
    replace g9 := g9.below b g9.lt
    replace g12 := g12.below b g12.lt
    replace g16 := g16.below b g16.lt
    clear b
    rcases hcase with ⟨rfl, hlt⟩ | ⟨D, rfl, hD⟩
    · clear hlt
      simp only [gv_zero]
      have b := balloc wn (.cells #[.int .i64 0, .int .i64 0, .string { data := #[] }] 26)
      have g18 := Blk.new wn 26 #[.int .i64 0, .int .i64 0, .string { data := #[] }]
      replace hb := bstep hb b
      replace lr := lr.step b
      replace lcap := lcap.step b
      replace g9 := g9.below b g9.lt
      replace g12 := g12.below b g12.lt
      replace g16 := g16.below b g16.lt
      clear b
      obtain ⟨c0, c1, c2, c3, c4, c5⟩ := cells3 g9
      obtain ⟨d0, d1, d2, d3, d4, d5⟩ := cells3 g12
      obtain ⟨i0, i1, i2, i3, i4, i5⟩ := cells3 g16
      obtain ⟨j0, j1, j2, j3, j4, j5⟩ := cells3 g18
      go_wp2_with fail
      clear c0 c1 c2 c3 c4 c5 d0 d1 d2 d3 d4 d5 i0 i1 i2 i3 i4 i5 j0 j1 j2 j3 j4 j5
      generalize hW : wn.alloc (.cells #[.int .i64 0, .int .i64 0, .string { data := #[] }] 26) = Wg18 at *
      generalize wn.heap.size = xg18 at *
      clear hW
      go_ret
      exact ⟨rfl, hb⟩
    · exact absurd (inv_rank hD HL1.out HI.out HR.out) (by omega)
  · obtain rfl : K1 = r := by omega
    clear hrk v1 v3
    have v3 : decide (K1 < K1) = false := by simp
    obtain ⟨c0, c1, c2, c3, c4, c5⟩ := cells3 g9
    obtain ⟨d0, d1, d2, d3, d4, d5⟩ := cells3 g12
    have HS : Hid (∀ w', Below wn.heap.size wn w' → (Below wn.heap.size wn w' ∧ w'.cell? ⟨xg9, 0, none⟩ = some (.int .i64 a1) ∧ w'.cell? ⟨xg9, 1, none⟩ = some (.int .i64 b1) ∧ w'.cell? ⟨xg9, 2, none⟩ = some (.string s1))) := Lib.hid fun w' hb' => by
      obtain ⟨k0, k1, k2, _, _, _⟩ := cells3 (g9.below hb' g9.lt)
      exact ⟨hb', k0, k1, k2⟩
    go_wp2_with fail
    clear c0 c1 c2 c3 c4 c5 d0 d1 d2 d3 d4 d5
    refine wp_region_noPanic ?_
    refine wp_region_held_drew (S := fun w' => Below wn.heap.size wn w' ∧ w'.cell? ⟨xg9, 0, none⟩ = some (.int .i64 a1) ∧ w'.cell? ⟨xg9, 1, none⟩ = some (.int .i64 b1) ∧ w'.cell? ⟨xg9, 2, none⟩ = some (.string s1)) (by kernel_rfl) (HS.out _ (Below.refl _ _).drew) (fun hHeld => ?_)
    refine wpAnyH_take (i := 0) (v := .int .i64 (K1 : Int)) rfl (by kernel_rfl) (by kernel_rfl) (by kernel_rfl) (fun _ _ _ h => h) (Or.inl ⟨by rfl, fun w hSw => by (try dsimp only at hSw); go_simp⟩) (by assumption) ?_
    try simp only [Act.put, List.getElem_toArray, List.getElem_cons_succ, List.getElem_cons_zero, List.setIfInBounds_toArray, List.set_cons_zero, List.set_cons_succ]
    refine wpAnyH_take (i := 1) (v := (.agg #[.int .i64 a1, .int .i64 b1, .string s1])) rfl (by kernel_rfl) (by kernel_rfl) (by kernel_rfl) (fun _ _ _ h => h) (Or.inl ⟨by rfl, fun w hSw => by (try dsimp only at hSw); go_simp⟩) (by assumption) ?_
    try simp only [Act.put, List.getElem_toArray, List.getElem_cons_succ, List.getElem_cons_zero, List.setIfInBounds_toArray, List.set_cons_zero, List.set_cons_succ]
    refine wpAnyH_ready (rs := [2]) (by kernel_rfl) (by simp) ?_
    refine AllReadyH.cons rfl (fun K hK => ?_) AllReadyH.nil
    go_simp
    refine (CT'.out _).mono ?_
    rintro e x1 ⟨rfl, e1⟩
    have mm := bstep hHeld.1 e1
    simp only []
    refine hK.out _ _ (HS.out _ mm) (fun hHeld => ?_)
    clear hK K
    try simp only [Act.put, List.getElem_toArray, List.getElem_cons_succ, List.getElem_cons_zero, List.setIfInBounds_toArray, List.set_cons_zero, List.set_cons_succ]
    refine wpAnyH_ready (rs := [3]) (by kernel_rfl) (by simp) ?_
    refine AllReadyH.cons rfl (fun K hK => ?_) AllReadyH.nil
    go_simp
    refine (CRT'.out _).mono ?_
    rintro e x2 ⟨rt, rfl, hrt, e2⟩
    have mm := bstep hHeld.1 e2
    obtain rfl : K1 = rt := (turn_rank HL1.out HR.out hrt).symm
    simp only []
    refine hK.out _ _ (HS.out _ mm) (fun hHeld => ?_)
    clear hK K
    try simp only [Act.put, List.getElem_toArray, List.getElem_cons_succ, List.getElem_cons_zero, List.setIfInBounds_toArray, List.set_cons_zero, List.set_cons_succ]
    refine wpAnyH_take (i := 4) (v := .bool false) rfl (by kernel_rfl) (by kernel_rfl) (by kernel_rfl) (fun _ _ _ h => h) (Or.inl ⟨by rfl, fun w hSw => by (try dsimp only at hSw); go_simp⟩) (by assumption) ?_
    try simp only [Act.put, List.getElem_toArray, List.getElem_cons_succ, List.getElem_cons_zero, List.setIfInBounds_toArray, List.set_cons_zero, List.set_cons_succ]
    refine wpAnyH_take (i := 5) (v := .bool false) rfl (by kernel_rfl) (by kernel_rfl) (by kernel_rfl) (fun _ _ _ h => h) (Or.inl ⟨by rfl, fun w hSw => by (try dsimp only at hSw); go_simp⟩) (by assumption) ?_
    try simp only [Act.put, List.getElem_toArray, List.getElem_cons_succ, List.getElem_cons_zero, List.setIfInBounds_toArray, List.set_cons_zero, List.set_cons_succ]
    refine wpAnyH_take (i := 6) (v := .int .i64 (K1 : Int)) rfl (by kernel_rfl) (by kernel_rfl) (by kernel_rfl) (fun _ _ _ h => h) (Or.inl ⟨by rfl, fun w hSw => by (try dsimp only at hSw); go_simp⟩) (by assumption) ?_
    try simp only [Act.put, List.getElem_toArray, List.getElem_cons_succ, List.getElem_cons_zero, List.setIfInBounds_toArray, List.set_cons_zero, List.set_cons_succ]
    refine wpAnyH_take (i := 7) (v := .int .i64 (K1 : Int)) rfl (by kernel_rfl) (by kernel_rfl) (by kernel_rfl) (fun _ _ _ h => h) (Or.inl ⟨by rfl, fun w hSw => by (try dsimp only at hSw); go_simp⟩) (by assumption) ?_
    try simp only [Act.put, List.getElem_toArray, List.getElem_cons_succ, List.getElem_cons_zero, List.setIfInBounds_toArray, List.set_cons_zero, List.set_cons_succ]
    refine wpAnyH_take (i := 8) (v := .bool false) rfl (by kernel_rfl) (by kernel_rfl) (by kernel_rfl) (fun _ _ _ h => h) (Or.inl ⟨by rfl, fun w hSw => by (try dsimp only at hSw); go_simp⟩) (by assumption) ?_
    try simp only [Act.put, List.getElem_toArray, List.getElem_cons_succ, List.getElem_cons_zero, List.setIfInBounds_toArray, List.set_cons_zero, List.set_cons_succ]
    refine wpAnyH_take (i := 9) (v := .bool false) rfl (by kernel_rfl) (by kernel_rfl) (by kernel_rfl) (fun _ _ _ h => h) (Or.inl ⟨by rfl, fun w hSw => by (try dsimp only at hSw); go_simp⟩) (by assumption) ?_
    try simp only [Act.put, List.getElem_toArray, List.getElem_cons_succ, List.getElem_cons_zero, List.setIfInBounds_toArray, List.set_cons_zero, List.set_cons_succ]
    refine wpAnyH_take (i := 10) (v := .bool false) rfl (by kernel_rfl) (by kernel_rfl) (by kernel_rfl) (fun _ _ _ h => h) (Or.inl ⟨by rfl, fun w hSw => by (try dsimp only at hSw); go_simp⟩) (by assumption) ?_
    try simp only [Act.put, List.getElem_toArray, List.getElem_cons_succ, List.getElem_cons_zero, List.setIfInBounds_toArray, List.set_cons_zero, List.set_cons_succ]
    refine wpAnyH_take (i := 11) (v := .int .i64 (K1 : Int)) rfl (by kernel_rfl) (by kernel_rfl) (by kernel_rfl) (fun _ _ _ h => h) (Or.inl ⟨by rfl, fun w hSw => by (try dsimp only at hSw); go_simp⟩) (by assumption) ?_
    try simp only [Act.put, List.getElem_toArray, List.getElem_cons_succ, List.getElem_cons_zero, List.setIfInBounds_toArray, List.set_cons_zero, List.set_cons_succ]
    refine wpAnyH_take (i := 12) (v := (.slice Al L1.length cl)) rfl (by kernel_rfl) (by kernel_rfl) (by kernel_rfl) (fun _ _ _ h => h) (Or.inl ⟨by rfl, fun w hSw => by (try dsimp only at hSw); go_simp⟩) (by assumption) ?_
    try simp only [Act.put, List.getElem_toArray, List.getElem_cons_succ, List.getElem_cons_zero, List.setIfInBounds_toArray, List.set_cons_zero, List.set_cons_succ]
    refine wpAnyH_ready (rs := [13]) (by kernel_rfl) (by simp) ?_
    refine AllReadyH.cons rfl (fun K hK => ?_) AllReadyH.nil
    go_simp
    refine hK.out _ _ hHeld (fun hHeld => ?_)
    clear hK K
    try simp only [Act.put, List.getElem_toArray, List.getElem_cons_succ, List.getElem_cons_zero, List.setIfInBounds_toArray, List.set_cons_zero, List.set_cons_succ]
    refine wpAnyH_take (i := 14) (v := .bool false) rfl (by kernel_rfl) (by kernel_rfl) (by kernel_rfl) (fun _ _ _ h => h) (Or.inl ⟨by rfl, fun w hSw => by (try dsimp only at hSw); go_simp⟩) (by assumption) ?_
    try simp only [Act.put, List.getElem_toArray, List.getElem_cons_succ, List.getElem_cons_zero, List.setIfInBounds_toArray, List.set_cons_zero, List.set_cons_succ]
    refine wpAnyH_take (i := 15) (v := .bool false) rfl (by kernel_rfl) (by kernel_rfl) (by kernel_rfl) (fun _ _ _ h => h) (Or.inl ⟨by rfl, fun w hSw => by (try dsimp only at hSw); go_simp⟩) (by assumption) ?_
    try simp only [Act.put, List.getElem_toArray, List.getElem_cons_succ, List.getElem_cons_zero, List.setIfInBounds_toArray, List.set_cons_zero, List.set_cons_succ]
    refine wpAnyH_take (i := 16) (v := .bool false) rfl (by kernel_rfl) (by kernel_rfl) (by kernel_rfl) (fun _ _ _ h => h) (Or.inl ⟨by rfl, fun w hSw => by (try dsimp only at hSw); go_simp⟩) (by assumption) ?_
    try simp only [Act.put, List.getElem_toArray, List.getElem_cons_succ, List.getElem_cons_zero, List.setIfInBounds_toArray, List.set_cons_zero, List.set_cons_succ]
    refine wpAnyH_take (i := 17) (v := (.agg #[.int .i64 a1, .int .i64 b1, .string s1])) rfl (by kernel_rfl) (by kernel_rfl) (by kernel_rfl) (fun _ _ _ h => h) (Or.inl ⟨by rfl, fun w hSw => by (try dsimp only at hSw); go_simp⟩) (by assumption) ?_
    try simp only [Act.put, List.getElem_toArray, List.getElem_cons_succ, List.getElem_cons_zero, List.setIfInBounds_toArray, List.set_cons_zero, List.set_cons_succ]
    refine wpAnyH_take (i := 20) (v := (.agg #[.int .i64 a1, .int .i64 b1, .string s1])) rfl (by kernel_rfl) (by kernel_rfl) (by kernel_rfl) (fun _ _ _ h => h) (Or.inl ⟨by rfl, fun w hSw => by (try dsimp only at hSw); go_simp⟩) (by assumption) ?_
    try simp only [Act.put, List.getElem_toArray, List.getElem_cons_succ, List.getElem_cons_zero, List.setIfInBounds_toArray, List.set_cons_zero, List.set_cons_succ]
    refine wpAnyH_ready (rs := [18]) (by kernel_rfl) (by simp) ?_
    refine AllReadyH.cons rfl (fun K hK => ?_) AllReadyH.nil
    go_simp
    refine (CT'.out _).mono ?_
    rintro e x3 ⟨rfl, e3⟩
    have mm := bstep hHeld.1 e3
    simp only []
    refine hK.out _ _ (HS.out _ mm) (fun hHeld => ?_)
    clear hK K
    try simp only [Act.put, List.getElem_toArray, List.getElem_cons_succ, List.getElem_cons_zero, List.setIfInBounds_toArray, List.set_cons_zero, List.set_cons_succ]
    refine wpAnyH_ready (rs := [19]) (by kernel_rfl) (by simp) ?_
    refine AllReadyH.cons rfl (fun K hK => ?_) AllReadyH.nil
    go_simp
    refine (CTT'.out _).mono ?_
    rintro e x4 ⟨rfl, e4⟩
    have mm := bstep hHeld.1 e4
    simp only []
    refine hK.out _ _ (HS.out _ mm) (fun hHeld => ?_)
    clear hK K
    try simp only [Act.put, List.getElem_toArray, List.getElem_cons_succ, List.getElem_cons_zero, List.setIfInBounds_toArray, List.set_cons_zero, List.set_cons_succ]
    refine wpAnyH_ready (rs := [21]) (by kernel_rfl) (by simp) ?_
    refine AllReadyH.cons rfl (fun K hK => ?_) AllReadyH.nil
    go_simp
    refine (CS1'.out _).mono ?_
    rintro e x5 ⟨rfl, e5⟩
    have mm := bstep hHeld.1 e5
    simp only []
    refine hK.out _ _ (HS.out _ mm) (fun hHeld => ?_)
    clear hK K
    try simp only [Act.put, List.getElem_toArray, List.getElem_cons_succ, List.getElem_cons_zero, List.setIfInBounds_toArray, List.set_cons_zero, List.set_cons_succ]
    refine wpAnyH_take (i := 22) (v := .bool false) rfl (by kernel_rfl) (by kernel_rfl) (by kernel_rfl) (fun _ _ _ h => h) (Or.inl ⟨by rfl, fun w hSw => by (try dsimp only at hSw); go_simp⟩) (by assumption) ?_
    try simp only [Act.put, List.getElem_toArray, List.getElem_cons_succ, List.getElem_cons_zero, List.setIfInBounds_toArray, List.set_cons_zero, List.set_cons_succ]
    refine wpAnyH_take (i := 23) (v := .bool false) rfl (by kernel_rfl) (by kernel_rfl) (by kernel_rfl) (fun _ _ _ h => h) (Or.inl ⟨by rfl, fun w hSw => by (try dsimp only at hSw); go_simp⟩) (by assumption) ?_
    try simp only [Act.put, List.getElem_toArray, List.getElem_cons_succ, List.getElem_cons_zero, List.setIfInBounds_toArray, List.set_cons_zero, List.set_cons_succ]
    refine wpAnyH_take (i := 24) (v := undef) rfl (by kernel_rfl) (by kernel_rfl) (by kernel_rfl) (fun _ _ _ h => h) (Or.inr ⟨by kernel_rfl, rfl⟩) (by assumption) ?_
    try simp only [Act.put, List.getElem_toArray, List.getElem_cons_succ, List.getElem_cons_zero, List.setIfInBounds_toArray, List.set_cons_zero, List.set_cons_succ]
    refine wpAnyH_take (i := 25) (v := undef) rfl (by kernel_rfl) (by kernel_rfl) (by kernel_rfl) (fun _ _ _ h => h) (Or.inr ⟨by kernel_rfl, rfl⟩) (by assumption) ?_
    try simp only [Act.put, List.getElem_toArray, List.getElem_cons_succ, List.getElem_cons_zero, List.setIfInBounds_toArray, List.set_cons_zero, List.set_cons_succ]
    refine wpAnyH_take (i := 26) (v := .bool false) rfl (by kernel_rfl) (by kernel_rfl) (by kernel_rfl) (fun _ _ _ h => h) (Or.inl ⟨by rfl, fun w hSw => by (try dsimp only at hSw); go_simp⟩) (by assumption) ?_
    try simp only [Act.put, List.getElem_toArray, List.getElem_cons_succ, List.getElem_cons_zero, List.setIfInBounds_toArray, List.set_cons_zero, List.set_cons_succ]
    refine wpAnyH_take (i := 27) (v := .bool false) rfl (by kernel_rfl) (by kernel_rfl) (by kernel_rfl) (fun _ _ _ h => h) (Or.inl ⟨by rfl, fun w hSw => by (try dsimp only at hSw); go_simp⟩) (by assumption) ?_
    try simp only [Act.put, List.getElem_toArray, List.getElem_cons_succ, List.getElem_cons_zero, List.setIfInBounds_toArray, List.set_cons_zero, List.set_cons_succ]
    refine wpAnyH_take (i := 28) (v := undef) rfl (by kernel_rfl) (by kernel_rfl) (by kernel_rfl) (fun _ _ _ h => h) (Or.inr ⟨by kernel_rfl, rfl⟩) (by assumption) ?_
    try simp only [Act.put, List.getElem_toArray, List.getElem_cons_succ, List.getElem_cons_zero, List.setIfInBounds_toArray, List.set_cons_zero, List.set_cons_succ]
    refine wpAnyH_take (i := 29) (v := undef) rfl (by kernel_rfl) (by kernel_rfl) (by kernel_rfl) (fun _ _ _ h => h) (Or.inr ⟨by kernel_rfl, rfl⟩) (by assumption) ?_
    try simp only [Act.put, List.getElem_toArray, List.getElem_cons_succ, List.getElem_cons_zero, List.setIfInBounds_toArray, List.set_cons_zero, List.set_cons_succ]
    refine wpAnyH_take (i := 30) (v := undef) rfl (by kernel_rfl) (by kernel_rfl) (by kernel_rfl) (fun _ _ _ h => h) (Or.inr ⟨by kernel_rfl, rfl⟩) (by assumption) ?_
    try simp only [Act.put, List.getElem_toArray, List.getElem_cons_succ, List.getElem_cons_zero, List.setIfInBounds_toArray, List.set_cons_zero, List.set_cons_succ]
    refine wpAnyH_take (i := 31) (v := .bool false) rfl (by kernel_rfl) (by kernel_rfl) (by kernel_rfl) (fun _ _ _ h => h) (Or.inl ⟨by rfl, fun w hSw => by (try dsimp only at hSw); go_simp⟩) (by assumption) ?_
    try simp only [Act.put, List.getElem_toArray, List.getElem_cons_succ, List.getElem_cons_zero, List.setIfInBounds_toArray, List.set_cons_zero, List.set_cons_succ]
    refine wpAnyH_take (i := 32) (v := .bool false) rfl (by kernel_rfl) (by kernel_rfl) (by kernel_rfl) (fun _ _ _ h => h) (Or.inl ⟨by rfl, fun w hSw => by (try dsimp only at hSw); go_simp⟩) (by assumption) ?_
    try simp only [Act.put, List.getElem_toArray, List.getElem_cons_succ, List.getElem_cons_zero, List.setIfInBounds_toArray, List.set_cons_zero, List.set_cons_succ]
    refine wpAnyH_done (by kernel_rfl) ?_ _
    refine NoPanic.normal ?_
    have b : Below wn.heap.size wn _ := hHeld.1
    replace hb := bstep hb b
    replace lr := lr.step b
    replace lcap := lcap.step b
    replace g9 := g9.below b g9.lt
    replace g12 := g12.below b g12.lt
    clear b hHeld HS mm
    obtain ⟨c0, c1, c2, c3, c4, c5⟩ := cells3 g9
    obtain ⟨d0, d1, d2, d3, d4, d5⟩ := cells3 g12
    go_wp2_with fail
    clear c0 c1 c2 c3 c4 c5 d0 d1 d2 d3 d4 d5
    refine (CMU'.out _).mono ?_
    rintro e wn ⟨rfl, b⟩
    replace hb := bstep hb b
    replace lr := lr.step b
    replace lcap := lcap.step b
    replace g9 := g9.below b g9.lt
    replace g12 := g12.below b g12.lt
    clear b
    have b := balloc wn (.cells #[.int .i64 a4, .int .i64 b4, .string s4] 26)
    have g16 := Blk.new wn 26 #[.int .i64 a4, .int .i64 b4, .string s4]
    replace hb := bstep hb b
    replace lr := lr.step b
    replace lcap := lcap.step b
    replace g9 := g9.below b g9.lt
    replace g12 := g12.below b g12.lt
    clear b
    obtain ⟨c0, c1, c2, c3, c4, c5⟩ := cells3 g9
    obtain ⟨d0, d1, d2, d3, d4, d5⟩ := cells3 g12
    obtain ⟨i0, i1, i2, i3, i4, i5⟩ := cells3 g16
    go_wp2_with fail
    clear c0 c1 c2 c3 c4 c5 d0 d1 d2 d3 d4 d5 i0 i1 i2 i3 i4 i5
    generalize hW : wn.alloc (.cells #[.int .i64 a4, .int .i64 b4, .string s4] 26) = Wg16 at *
    generalize wn.heap.size = xg16 at *
    clear hW
    have HS : Hid (∀ w', Below Wg16.heap.size Wg16 w' → (Below Wg16.heap.size Wg16 w' ∧ w'.cell? ⟨xg16, 0, none⟩ = some (.int .i64 a4) ∧ w'.cell? ⟨xg16, 1, none⟩ = some (.int .i64 b4) ∧ w'.cell? ⟨xg16, 2, none⟩ = some (.string s4) ∧ w'.cell? ⟨xg12, 0, none⟩ = some (.int .i64 a2) ∧ w'.cell? ⟨xg12, 1, none⟩ = some (.int .i64 b2) ∧ w'.cell? ⟨xg12, 2, none⟩ = some (.string s2))) := Lib.hid fun w' hb' => by
      obtain ⟨k0, k1, k2, _, _, _⟩ := cells3 (g16.below hb' g16.lt)
      obtain ⟨l0, l1, l2, _, _, _⟩ := cells3 (g12.below hb' g12.lt)
      exact ⟨hb', k0, k1, k2, l0, l1, l2⟩
    go_region_held3 (fun w' => Below Wg16.heap.size Wg16 w' ∧ w'.cell? ⟨xg16, 0, none⟩ = some (.int .i64 a4) ∧ w'.cell? ⟨xg16, 1, none⟩ = some (.int .i64 b4) ∧ w'.cell? ⟨xg16, 2, none⟩ = some (.string s4) ∧ w'.cell? ⟨xg12, 0, none⟩ = some (.int .i64 a2) ∧ w'.cell? ⟨xg12, 1, none⟩ = some (.int .i64 b2) ∧ w'.cell? ⟨xg12, 2, none⟩ = some (.string s2))
      ((refine HS.out _ ?_; first | exact (Below.refl _ _).drew | assumption))
      (first
        | (go_at_call 12; (with_reducible refine (CRP'.out _).mono ?_); rintro e xp ⟨rp, rfl, hrp, bp⟩; have mp := bstep (And.left ‹Below Wg16.heap.size Wg16 _ ∧ _›) bp; have v5 := prod_left HL1.out HL2.out HM.out HR.out hrp; have v6 : decide (K1 < rp) = false := (by simp; omega))
        | (go_at_call 12; (with_reducible refine (CRO'.out _).mono ?_); rintro e xq ⟨ro, rfl, hro, bq⟩; have mq := bstep (And.left ‹Below Wg16.heap.size Wg16 _ ∧ _›) bq; have v7 := prod_right HL2.out hro hrp; have v8 : decide (ro < rp) = false := (by simp; omega)))
    have b := mq
    replace hb := bstep hb b
    replace lr := lr.step b
    replace lcap := lcap.step b
    replace g9 := g9.below b g9.lt
    replace g12 := g12.below b g12.lt
    replace g16 := g16.below b g16.lt
    clear b mq mp bq bp HS
    obtain ⟨c0, c1, c2, c3, c4, c5⟩ := cells3 g9
    obtain ⟨d0, d1, d2, d3, d4, d5⟩ := cells3 g12
    obtain ⟨i0, i1, i2, i3, i4, i5⟩ := cells3 g16
    go_wp2_with fail
    clear c0 c1 c2 c3 c4 c5 d0 d1 d2 d3 d4 d5 i0 i1 i2 i3 i4 i5
    have HD := det_full HA1.out HR.out
    have C3 := fun W (q1 : Rds W W.heap.size Al L1.length L1) (q2 : Caps W W.heap.size Al L1.length) => refdet_any L1.length W _ _ cl _ q1 q2 (Nat.le_refl _) (by omega) y1 y2 HA1.out
    generalize detL L1.length L1 = dd at *
    have C3' := Lib.hid C3
    clear C3
    have t7 : (bv dd != 0) = true := bv_ne0 (HD.1 (by have := HI.out; omega))
    refine (C3'.out _ lr lcap).mono ?_
    rintro e wn ⟨rfl, b⟩
    replace hb := bstep hb b
    replace lr := lr.step b
    replace lcap := lcap.step b
    replace g9 := g9.below b g9.lt
    replace g12 := g12.below b g12.lt
    replace g16 := g16.below b g16.lt
    clear b
    clear C3' HD
    obtain ⟨c0, c1, c2, c3, c4, c5⟩ := cells3 g9
    obtain ⟨d0, d1, d2, d3, d4, d5⟩ := cells3 g12
    obtain ⟨i0, i1, i2, i3, i4, i5⟩ := cells3 g16
    go_wp2_with fail
    clear c0 c1 c2 c3 c4 c5 d0 d1 d2 d3 d4 d5 i0 i1 i2 i3 i4 i5
    refine (CI'.out _).mono ?_
    rintro e wn ⟨hcase, b⟩
    replace hb := bstep hb b
    replace lr := lr.step b
    replace lcap := lcap.step b
    replace g9 := g9.below b g9.lt
    replace g12 := g12.below b g12.lt
    replace g16 := g16.below b g16.lt
    clear b
    rcases hcase with ⟨rfl, hlt⟩ | ⟨D, rfl, hD⟩
    · exact absurd (hlt _ HR.out) (Nat.lt_irrefl _)
    · have OKD : GridOk K1 D := ⟨hD.2.1, by omega, by rw [hD.1]; omega, by rw [hD.1]; exact Nat.le_trans (Nat.mul_le_mul q5 q5) (by omega)⟩
      have CD := fun W => gmul_ok (w := W) OKD HOK1.out HI.out.symm (by rw [hD.1]; exact Nat.le_trans (Nat.mul_le_mul q5 q5) (by omega))
      rw [inv_mul_left hD HL1.out HI.out] at CD
      have CI2 := fun W => ginv_any (w := W) OKD hD.1
      unfold InvEnds at CI2
      have HX := Lib.hid (inv_inv hD HL1.out HI.out)
      have HY := Lib.hid fun C (hC : InvIs K1 D C) => inv_back hD HL1.out HI.out hC
      have CS := fun W => gsame_any K1 K1 (unitG K1) (unitG K1) W
      rw [sameG_self'] at CS
      have CU := CU'.out
      obtain ⟨a5, b5, s5, g5⟩ := gv_parts K1 D
      obtain ⟨a6, b6, s6, g6⟩ := gv_parts K1 (unitG K1)
      simp only [g1, g5, g6] at CD
      simp only [g5] at CI2
      simp only [g6] at CS CU
      rw [g5]
      have CD' := Lib.hid CD
      have CS' := Lib.hid CS
      have CU2 := Lib.hid CU
      have CI3 := Lib.hid CI2
      clear CD CS CU CI2 hD OKD g5 g6
      have b := balloc wn (.cells #[.int .i64 a5, .int .i64 b5, .string s5] 26)
      have g18 := Blk.new wn 26 #[.int .i64 a5, .int .i64 b5, .string s5]
      replace hb := bstep hb b
      replace lr := lr.step b
      replace lcap := lcap.step b
      replace g9 := g9.below b g9.lt
      replace g12 := g12.below b g12.lt
      replace g16 := g16.below b g16.lt
      clear b
      obtain ⟨c0, c1, c2, c3, c4, c5⟩ := cells3 g9
      obtain ⟨d0, d1, d2, d3, d4, d5⟩ := cells3 g12
      obtain ⟨i0, i1, i2, i3, i4, i5⟩ := cells3 g16
      obtain ⟨j0, j1, j2, j3, j4, j5⟩ := cells3 g18
      go_wp2_with fail
      clear c0 c1 c2 c3 c4 c5 d0 d1 d2 d3 d4 d5 i0 i1 i2 i3 i4 i5 j0 j1 j2 j3 j4 j5
      generalize hW : wn.alloc (.cells #[.int .i64 a5, .int .i64 b5, .string s5] 26) = Wg18 at *
      generalize wn.heap.size = xg18 at *
      clear hW
      refine (CI3.out _).mono ?_
      rintro e wn ⟨hcase, b⟩
      replace hb := bstep hb b
      replace lr := lr.step b
      replace lcap := lcap.step b
      replace g9 := g9.below b g9.lt
      replace g12 := g12.below b g12.lt
      replace g16 := g16.below b g16.lt
      replace g18 := g18.below b g18.lt
      clear b
      rcases hcase with ⟨rfl, hlt⟩ | ⟨C, rfl, hC⟩
      · exact absurd hlt HX.out
      · rw [HY.out C hC, g1]
        clear hC C
        have b := balloc wn (.cells #[.int .i64 a1, .int .i64 b1, .string s1] 26)
        have g20 := Blk.new wn 26 #[.int .i64 a1, .int .i64 b1, .string s1]
        replace hb := bstep hb b
        replace lr := lr.step b
        replace lcap := lcap.step b
        replace g9 := g9.below b g9.lt
        replace g12 := g12.below b g12.lt
        replace g16 := g16.below b g16.lt
        replace g18 := g18.below b g18.lt
        clear b
        obtain ⟨c0, c1, c2, c3, c4, c5⟩ := cells3 g9
        obtain ⟨d0, d1, d2, d3, d4, d5⟩ := cells3 g12
        obtain ⟨i0, i1, i2, i3, i4, i5⟩ := cells3 g16
        obtain ⟨j0, j1, j2, j3, j4, j5⟩ := cells3 g18
        obtain ⟨m0, m1, m2, m3, m4, m5⟩ := cells3 g20
        go_wp2_with fail
        clear c0 c1 c2 c3 c4 c5 d0 d1 d2 d3 d4 d5 i0 i1 i2 i3 i4 i5 j0 j1 j2 j3 j4 j5 m0 m1 m2 m3 m4 m5
        generalize hW : wn.alloc (.cells #[.int .i64 a1, .int .i64 b1, .string s1] 26) = Wg20 at *
        generalize wn.heap.size = xg20 at *
        clear hW
        refine (CD'.out _).mono ?_
        rintro e wn ⟨rfl, b⟩
        replace hb := bstep hb b
        replace lr := lr.step b
        replace lcap := lcap.step b
        replace g9 := g9.below b g9.lt
        replace g12 := g12.below b g12.lt
        replace g16 := g16.below b g16.lt
        replace g18 := g18.below b g18.lt
        replace g20 := g20.below b g20.lt
        clear b
        have b := balloc wn (.cells #[.int .i64 a6, .int .i64 b6, .string s6] 26)
        have g22 := Blk.new wn 26 #[.int .i64 a6, .int .i64 b6, .string s6]
        replace hb := bstep hb b
        replace lr := lr.step b
        replace lcap := lcap.step b
        replace g9 := g9.below b g9.lt
        replace g12 := g12.below b g12.lt
        replace g16 := g16.below b g16.lt
        replace g18 := g18.below b g18.lt
        replace g20 := g20.below b g20.lt
        clear b
        obtain ⟨c0, c1, c2, c3, c4, c5⟩ := cells3 g9
        obtain ⟨d0, d1, d2, d3, d4, d5⟩ := cells3 g12
        obtain ⟨i0, i1, i2, i3, i4, i5⟩ := cells3 g16
        obtain ⟨j0, j1, j2, j3, j4, j5⟩ := cells3 g18
        obtain ⟨m0, m1, m2, m3, m4, m5⟩ := cells3 g20
        obtain ⟨n0, n1, n2, n3, n4, n5⟩ := cells3 g22
        go_wp2_with fail
        clear c0 c1 c2 c3 c4 c5 d0 d1 d2 d3 d4 d5 i0 i1 i2 i3 i4 i5 j0 j1 j2 j3 j4 j5 m0 m1 m2 m3 m4 m5 n0 n1 n2 n3 n4 n5
        generalize hW : wn.alloc (.cells #[.int .i64 a6, .int .i64 b6, .string s6] 26) = Wg22 at *
        generalize wn.heap.size = xg22 at *
        clear hW
        refine (CU2.out _).mono ?_
        rintro e wn ⟨rfl, b⟩
        replace hb := bstep hb b
        replace lr := lr.step b
        replace lcap := lcap.step b
        replace g9 := g9.below b g9.lt
        replace g12 := g12.below b g12.lt
        replace g16 := g16.below b g16.lt
        replace g18 := g18.below b g18.lt
        replace g20 := g20.below b g20.lt
        replace g22 := g22.below b g22.lt
        clear b
        have b := balloc wn (.cells #[.int .i64 a6, .int .i64 b6, .string s6] 26)
        have g24 := Blk.new wn 26 #[.int .i64 a6, .int .i64 b6, .string s6]
        replace hb := bstep hb b
        replace lr := lr.step b
        replace lcap := lcap.step b
        replace g9 := g9.below b g9.lt
        replace g12 := g12.below b g12.lt
        replace g16 := g16.below b g16.lt
        replace g18 := g18.below b g18.lt
        replace g20 := g20.below b g20.lt
        replace g22 := g22.below b g22.lt
        clear b
        obtain ⟨c0, c1, c2, c3, c4, c5⟩ := cells3 g9
        obtain ⟨d0, d1, d2, d3, d4, d5⟩ := cells3 g12
        obtain ⟨i0, i1, i2, i3, i4, i5⟩ := cells3 g16
        obtain ⟨j0, j1, j2, j3, j4, j5⟩ := cells3 g18
        obtain ⟨m0, m1, m2, m3, m4, m5⟩ := cells3 g20
        obtain ⟨n0, n1, n2, n3, n4, n5⟩ := cells3 g22
        obtain ⟨o0, o1, o2, o3, o4, o5⟩ := cells3 g24
        go_wp2_with fail
        clear c0 c1 c2 c3 c4 c5 d0 d1 d2 d3 d4 d5 i0 i1 i2 i3 i4 i5 j0 j1 j2 j3 j4 j5 m0 m1 m2 m3 m4 m5 n0 n1 n2 n3 n4 n5 o0 o1 o2 o3 o4 o5
        generalize hW : wn.alloc (.cells #[.int .i64 a6, .int .i64 b6, .string s6] 26) = Wg24 at *
        generalize wn.heap.size = xg24 at *
        clear hW
        refine (CS1'.out _).mono ?_
        rintro e wn ⟨rfl, b⟩
        replace hb := bstep hb b
        replace lr := lr.step b
        replace lcap := lcap.step b
        replace g9 := g9.below b g9.lt
        replace g12 := g12.below b g12.lt
        replace g16 := g16.below b g16.lt
        replace g18 := g18.below b g18.lt
        replace g20 := g20.below b g20.lt
        replace g22 := g22.below b g22.lt
        replace g24 := g24.below b g24.lt
        clear b
        obtain ⟨c0, c1, c2, c3, c4, c5⟩ := cells3 g9
        obtain ⟨d0, d1, d2, d3, d4, d5⟩ := cells3 g12
        obtain ⟨i0, i1, i2, i3, i4, i5⟩ := cells3 g16
        obtain ⟨j0, j1, j2, j3, j4, j5⟩ := cells3 g18
        obtain ⟨m0, m1, m2, m3, m4, m5⟩ := cells3 g20
        obtain ⟨n0, n1, n2, n3, n4, n5⟩ := cells3 g22
        obtain ⟨o0, o1, o2, o3, o4, o5⟩ := cells3 g24
        go_wp2_with fail
        clear c0 c1 c2 c3 c4 c5 d0 d1 d2 d3 d4 d5 i0 i1 i2 i3 i4 i5 j0 j1 j2 j3 j4 j5 m0 m1 m2 m3 m4 m5 n0 n1 n2 n3 n4 n5 o0 o1 o2 o3 o4 o5
        refine (CS'.out _).mono ?_
        rintro e wn ⟨rfl, b⟩
        replace hb := bstep hb b
        replace lr := lr.step b
        replace lcap := lcap.step b
        replace g9 := g9.below b g9.lt
        replace g12 := g12.below b g12.lt
        replace g16 := g16.below b g16.lt
        replace g18 := g18.below b g18.lt
        replace g20 := g20.below b g20.lt
        replace g22 := g22.below b g22.lt
        replace g24 := g24.below b g24.lt
        clear b
        obtain ⟨c0, c1, c2, c3, c4, c5⟩ := cells3 g9
        obtain ⟨d0, d1, d2, d3, d4, d5⟩ := cells3 g12
        obtain ⟨i0, i1, i2, i3, i4, i5⟩ := cells3 g16
        obtain ⟨j0, j1, j2, j3, j4, j5⟩ := cells3 g18
        obtain ⟨m0, m1, m2, m3, m4, m5⟩ := cells3 g20
        obtain ⟨n0, n1, n2, n3, n4, n5⟩ := cells3 g22
        obtain ⟨o0, o1, o2, o3, o4, o5⟩ := cells3 g24
        go_wp2_with fail
        clear c0 c1 c2 c3 c4 c5 d0 d1 d2 d3 d4 d5 i0 i1 i2 i3 i4 i5 j0 j1 j2 j3 j4 j5 m0 m1 m2 m3 m4 m5 n0 n1 n2 n3 n4 n5 o0 o1 o2 o3 o4 o5
        go_ret
        exact ⟨rfl, hb⟩
end Go.Proofs.Ytilelmejpbnbnaa
