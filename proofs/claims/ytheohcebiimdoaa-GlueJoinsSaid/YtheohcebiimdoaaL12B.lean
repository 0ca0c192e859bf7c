import Derived.Test.YtheohcebiimdoaaL12A
import Derived.Deep.DeepCutAuto
/- GlueJoins: its walk. -/
namespace Go.Proofs.Ytheohcebiimdoaa
open Go.RowKit
set_option linter.unusedVariables false
set_option maxRecDepth 100000

set_option maxHeartbeats 600000 in
theorem gj_bad {l s k d : Int} {A : Option Addr} {n c : Nat} {rows : List (List UInt8)} {w : World} (h : Rds w w.heap.size A n rows) (hn : n ≤ 9223372036854775807) (l2 : l ≤ 9223372036854775807) (hf : gfitC l s k rows ≠ 0) :
    Calls Try.prog 5 #[pv l s k d, .slice A n c] w (GridEnds (.bool true) w) := by
  have hb := balloc w (.cells #[.int .i64 l, .int .i64 s, .int .i64 k, .int .u32 d] 24)
  have hg := Blk.new w 24 #[.int .i64 l, .int .i64 s, .int .i64 k, .int .u32 d]
  have CF := Lib.hid fun (V : World) (hV : Rds V V.heap.size A n rows) => few12_any (l := l) (s := s) (k := k) (d := d) (c := c) hV hn l2
  have C1 := Lib.hid fun (V : World) (hV : Rds V V.heap.size A n rows) => gjoin_bad (d := d) (c := c) hV hn l2 hf
  have C2 := Lib.hid fun (V : World) (hV : Rds V V.heap.size A n rows) => (refall_any (s := s) (k := k) (d := d) (c := c) hV hn l2).mono fun e w' h => h.2 hf
  have C3 := Lib.hid fun (V : World) (hV : Rds V V.heap.size A n rows) => gclean_bad (d := d) (c := c) hV hn l2 hf
  have hR := Lib.hid fun W (hW : Below w.heap.size w W) => h.step hW
  have t := ne_code hf
  unfold pv at *
  clear hf h
  generalize gfitC l s k rows = m at *
  go_enter Try.func5, Try.ntmps5
  go_wp2_with fail
  refine (awake12 _).mono ?_
  rintro e w1 ⟨rfl, b2⟩
  replace hg := hg.below b2 hg.lt
  replace hb := bstep hb b2
  clear b2
  have hR1 := hR.out w1 hb
  obtain ⟨a0, a1, a2, a3, _⟩ := cells4 hg
  go_wp2_with fail
  refine (CF.out w1 hR1).mono ?_
  rintro e w2 ⟨bo, rfl, b2⟩
  replace hg := hg.below b2 hg.lt
  replace hb := bstep hb b2
  clear b2
  clear a0 a1 a2 a3 CF hR1
  obtain ⟨a0, a1, a2, a3, _⟩ := cells4 hg
  have hR2 := hR.out w2 hb
  cases bo
  · go_wp2_with fail
    go_ret
    exact ⟨rfl, hb⟩
  · go_wp2_with fail
    refine (C1.out w2 hR2).mono ?_
    rintro e w3 ⟨rfl, b2⟩
    replace hg := hg.below b2 hg.lt
    replace hb := bstep hb b2
    clear a0 a1 a2 a3 b2
    obtain ⟨a0, a1, a2, a3, _⟩ := cells4 hg
    have hR3 := hR.out w3 hb
    go_wp2_with fail
    refine (C2.out w3 hR3).mono ?_
    rintro e w4 ⟨rfl, b2⟩
    replace hg := hg.below b2 hg.lt
    replace hb := bstep hb b2
    clear a0 a1 a2 a3 b2
    obtain ⟨a0, a1, a2, a3, _⟩ := cells4 hg
    have hR4 := hR.out w4 hb
    go_wp2_with fail
    refine (C3.out w4 hR4).mono ?_
    rintro e w5 ⟨rfl, b2⟩
    go_wp2_with fail
    go_ret
    exact ⟨rfl, bstep hb b2⟩
set_option maxHeartbeats 1000000 in
theorem gj_ok {d : Int} {A : Option Addr} {L S K c : Nat} {rows : List (List UInt8)} {w : World} (h : Rds w w.heap.size A K rows) (hcaps : Caps w w.heap.size A K) (hf : gfitC L S K rows = 0) :
    Calls Try.prog 5 #[pv L S K d, .slice A K c] w (GridEnds (.bool true) w) := by
  have hb := balloc w (.cells #[.int .i64 L, .int .i64 S, .int .i64 K, .int .u32 d] 24)
  have hg := Blk.new w 24 #[.int .i64 L, .int .i64 S, .int .i64 K, .int .u32 d]
  obtain ⟨f1, f2, f3⟩ := gfit_ok hf
  rw [Int.toNat_natCast] at f3
  obtain ⟨L', S', K', e1, e2, e3, p1, p2, p3, p4, p5, p6, p7⟩ := plan_nat f1
  have e1' : L = L' := by omega
  have e2' : S = S' := by omega
  have e3' : K = K' := by omega
  subst e1' e2' e3'
  have hM := room_mul p2 p4
  have hln : rows.flatten.length = K * S := by
    have := flat_take_len f3 (k := K) (by rw [h.1]; exact Nat.le_refl _)
    rwa [List.take_of_length_le (by rw [h.1]; exact Nat.le_refl _)] at this
  have CF := Lib.hid fun (V : World) (hV : Rds V V.heap.size A K rows) => few12_any (l := (L : Int)) (s := (S : Int)) (k := (K : Int)) (d := d) (c := c) hV (by omega) (by omega)
  have C1 := Lib.hid fun (V : World) (hV : Rds V V.heap.size A K rows) => gjoin_ok (c := c) (d := d) hV hf
  have C2 := Lib.hid fun (V : World) (hV : Rds V V.heap.size A K rows) => (refall_any (l := (L : Int)) (s := (S : Int)) (k := (K : Int)) (d := d) (c := c) hV (by omega) (by omega)).mono fun e w' h => h.1 hf
  have C3 := Lib.hid fun (V : World) (hV : Rds V V.heap.size A K rows) (hc : Caps V V.heap.size A K) => gclean_ok (c := c) (d := d) hV hc hf
  have hR := Lib.hid fun W (hW : Below w.heap.size w W) => h.step hW
  have hP := Lib.hid fun W (hW : Below w.heap.size w W) => hcaps.step hW
  have hkS : 1 ≤ K * S := Nat.mul_pos p3 p1
  have Hln := Lib.hid hln
  have hflL : (rows.flatten.take L).length = L := by rw [List.length_take]; omega
  have HflL := Lib.hid hflL
  unfold pv at *
  clear hf h hcaps e1 e2 e3 f1 f2 f3 p6 p7 hln hflL
  go_enter Try.func5, Try.ntmps5
  go_wp2_with fail
  refine (awake12 _).mono ?_
  rintro e w1 ⟨rfl, b2⟩
  replace hg := hg.below b2 hg.lt
  replace hb := bstep hb b2
  clear b2
  have hR1 := hR.out w1 hb
  obtain ⟨a0, a1, a2, a3, _⟩ := cells4 hg
  go_wp2_with fail
  refine (CF.out w1 hR1).mono ?_
  rintro e w2 ⟨bo, rfl, b2⟩
  replace hg := hg.below b2 hg.lt
  replace hb := bstep hb b2
  clear b2
  clear a0 a1 a2 a3 CF hR1
  obtain ⟨a0, a1, a2, a3, _⟩ := cells4 hg
  have hR2 := hR.out w2 hb
  cases bo
  · go_wp2_with fail
    go_ret
    exact ⟨rfl, hb⟩
  · go_wp2_with fail
    refine (C1.out w2 hR2).mono ?_
    rintro e w3 ⟨g, rfl, hu, b2⟩
    replace hg := hg.below b2 hg.lt
    replace hb := bstep hb b2
    have hr := (Rd.of_blk hu).more hu.lt
    rw [HflL.out] at hr
    clear a0 a1 a2 a3 b2 hu
    obtain ⟨a0, a1, a2, a3, _⟩ := cells4 hg
    have hR3 := hR.out w3 hb
    go_wp2_with fail
    refine (C2.out w3 hR3).mono ?_
    rintro e w4 ⟨A4, c4, rfl, hr4, hc1, hc2, b2⟩
    rw [Hln.out] at hr4 hc1
    rw [Hln.out]
    replace hg := hg.below b2 hg.lt
    replace hb := bstep hb b2
    replace hr := hr.step b2
    clear a0 a1 a2 a3 b2 hR2 hR3
    obtain ⟨b4, o4, rfl, hbl4, _⟩ := hr4.at_ (show 0 < K * S by omega)
    have hq1 := hr4.part_first (m := L) p5
    have HS : Hid (∀ W, Below w4.heap.size w4 W → Below w4.heap.size w4 W ∧ W.cell? ⟨w.heap.size, 0, none⟩ = some (.int .i64 L) ∧ W.cell? ⟨w.heap.size, 1, none⟩ = some (.int .i64 S) ∧ W.cell? ⟨w.heap.size, 2, none⟩ = some (.int .i64 K) ∧ W.cell? ⟨w.heap.size, 3, none⟩ = some (.int .u32 d)) := Lib.hid fun W hW => by
      obtain ⟨a, b, c, d, _⟩ := cells4 (hg.below hW hg.lt)
      exact ⟨hW, a, b, c, d⟩
    have HC1 : Hid (∀ W, Below w4.heap.size w4 W → Calls Try.prog 12 #[.slice (some ⟨g, 0, none⟩) L L, .slice (some ⟨b4, o4, none⟩) L c4] W fun e w' => e = .returned (.bool true) ∧ Below W.heap.size W w') := Lib.hid fun W hW =>
      (same_any (hr.step hW) (hq1.step hW) (Nat.le_refl _) (Nat.le_refl _) (by omega)).mono fun e w' hh => by rw [beq_self_eq_true] at hh; exact hh
    have HC3 : Hid (∀ W, Below w4.heap.size w4 W → Calls Try.prog 21 #[.agg #[.int .i64 L, .int .i64 S, .int .i64 K, .int .u32 d], .slice A K c] W (GridEnds (.bool (zeroB (rows.flatten.drop L))) W)) := Lib.hid fun W hW =>
      C3.out W (hR.out W (bstep hb hW)) (hP.out W (bstep hb hW))
    have hLc : L ≤ c4 := by omega
    clear hq1
    by_cases hcL : c4 = L
    · have hMz : K * S - L = 0 := by omega
      have HC2 : Hid (∀ W, Below w4.heap.size w4 W → Calls Try.prog 15 #[.slice (some ⟨b4, o4, none⟩) 0 0] W fun e w' => e = .returned (.bool (zeroB (rows.flatten.drop L))) ∧ W = w') := Lib.hid fun W hW => by
        exact refzero_any (B := 0) (Rd.part_none (by rw [Hln.out]; omega)) (by omega)
      have hcL2 := hcL.symm
      subst hcL2
      generalize zeroB (rows.flatten.drop L) = z at *
      clear hr hr4 hMz
      generalize K * S = M at *
      go_wp2_with fail
      go_region_held3 (fun W => Below w4.heap.size w4 W ∧ W.cell? ⟨w.heap.size, 0, none⟩ = some (.int .i64 L) ∧ W.cell? ⟨w.heap.size, 1, none⟩ = some (.int .i64 S) ∧ W.cell? ⟨w.heap.size, 2, none⟩ = some (.int .i64 K) ∧ W.cell? ⟨w.heap.size, 3, none⟩ = some (.int .u32 d))
        ((refine HS.out _ ?_; first | exact (Below.refl _ _).drew | assumption))
        (first
          | (go_at_call 12; (with_reducible refine (HC1.out _ (And.left ‹Below w4.heap.size w4 _ ∧ _›)).mono ?_); rintro e w7 ⟨rfl, b7⟩; have kB7 := bstep (And.left ‹Below w4.heap.size w4 _ ∧ _›) b7)
          | (go_at_call 21; (with_reducible refine (HC3.out _ kB7).mono ?_); rintro e w8 ⟨rfl, b8⟩; have kB8 := bstep kB7 b8)
          | (go_at_call 15; (with_reducible refine (HC2.out _ kB8).mono ?_); rintro e w9 ⟨rfl, rfl⟩))
      go_wp2_with fail
      go_ret
      exact ⟨ret_bool (by simp), bstep hb kB8⟩
    · have hq2 := hr4.part_last (m := L) p5
      have HC2 : Hid (∀ W, Below w4.heap.size w4 W → Calls Try.prog 15 #[.slice (some ⟨b4, o4 + L, none⟩) (K * S - L) (c4 - L)] W fun e w' => e = .returned (.bool (zeroB (rows.flatten.drop L))) ∧ W = w') := Lib.hid fun W hW =>
        refzero_any (hq2.step hW) (by omega)
      generalize zeroB (rows.flatten.drop L) = z at *
      clear hr hr4 hq2
      generalize K * S = M at *
      go_wp2_with fail
      go_region_held3 (fun W => Below w4.heap.size w4 W ∧ W.cell? ⟨w.heap.size, 0, none⟩ = some (.int .i64 L) ∧ W.cell? ⟨w.heap.size, 1, none⟩ = some (.int .i64 S) ∧ W.cell? ⟨w.heap.size, 2, none⟩ = some (.int .i64 K) ∧ W.cell? ⟨w.heap.size, 3, none⟩ = some (.int .u32 d))
        ((refine HS.out _ ?_; first | exact (Below.refl _ _).drew | assumption))
        (first
          | (go_at_call 12; (with_reducible refine (HC1.out _ (And.left ‹Below w4.heap.size w4 _ ∧ _›)).mono ?_); rintro e w7 ⟨rfl, b7⟩; have kB7 := bstep (And.left ‹Below w4.heap.size w4 _ ∧ _›) b7)
          | (go_at_call 21; (with_reducible refine (HC3.out _ kB7).mono ?_); rintro e w8 ⟨rfl, b8⟩; have kB8 := bstep kB7 b8)
          | (go_at_call 15; (with_reducible refine (HC2.out _ kB8).mono ?_); rintro e w9 ⟨rfl, rfl⟩))
      go_wp2_with fail
      go_ret
      exact ⟨ret_bool (by simp), bstep hb kB8⟩
theorem gluejoins_walk (l s k d : Int) (A : Option Addr) (n c : Nat) (rows : List (List UInt8)) (w : World) (wl : (Lit.int .i64 l).wf = true) (ws : (Lit.int .i64 s).wf = true) (wk : (Lit.int .i64 k).wf = true) (wd : (Lit.int .u32 d).wf = true) (r : Rds w w.heap.size A n rows) (hcaps : Caps w w.heap.size A n) (hn : n ≤ c ∧ c ≤ maxLen) :
    Calls Try.prog 5 #[pv l s k d, .slice A n c] w fun e w' => e = .returned (.bool true) ∧ Below w.heap.size w w' := by
  have l2 := (bounds_i64 wl).2
  obtain ⟨hc, hcc⟩ := hn
  replace hcc : n ≤ 9223372036854775807 := by unfold maxLen at hcc; omega
  by_cases hf : gfitC l s k rows = 0
  · obtain ⟨f1, f2, f3⟩ := gfit_ok hf
    obtain ⟨L, S, K, rfl, rfl, rfl, _⟩ := plan_nat f1
    obtain rfl : n = K := by have := r.1; omega
    exact gj_ok r hcaps hf
  · exact gj_bad r hcc l2 hf
end Go.Proofs.Ytheohcebiimdoaa
