import Derived.Test.YtheohcebiimdoaaL11A
/- CutCuts: its walk. -/
namespace Go.Proofs.Ytheohcebiimdoaa
open Go.RowKit
set_option linter.unusedVariables false
set_option maxRecDepth 100000

theorem syms_short {S K : Nat} {us : List UInt8} (hS : S ≤ 65535) : Short (symsL S K us) := by
  intro r hr
  obtain ⟨i, _, rfl⟩ := List.mem_map.1 hr
  rw [symL_len]
  omega
theorem cc_long {l s k d i : Int} {A : Option Addr} {n c : Nat} {us : List UInt8} {w : World} (h1 : 2000 < n) : Calls Try.prog 3 #[pv l s k d, .slice A n c, .int .i64 i] w (GridEnds (.bool true) w) := by
  have hb := balloc w (.cells #[.int .i64 l, .int .i64 s, .int .i64 k, .int .u32 d] 24)
  have hg := Blk.new w 24 #[.int .i64 l, .int .i64 s, .int .i64 k, .int .u32 d]
  unfold pv
  go_enter Try.func3, Try.ntmps3
  go_wp2_with fail
  refine (awake11 _).mono ?_
  rintro e w1 ⟨rfl, b1⟩
  replace hg := hg.below b1 hg.lt
  replace hb := bstep hb b1
  clear b1
  obtain ⟨a0, a1, a2, a3, _⟩ := cells4 hg
  go_wp2_with fail
  go_ret
  exact ⟨rfl, hb⟩
theorem cc_wide {l s k d i : Int} {A : Option Addr} {n c : Nat} {us : List UInt8} {w : World} (h1 : n ≤ 2000) (h2 : 2000 < s) (h3 : s ≤ 65535) : Calls Try.prog 3 #[pv l s k d, .slice A n c, .int .i64 i] w (GridEnds (.bool true) w) := by
  have hb := balloc w (.cells #[.int .i64 l, .int .i64 s, .int .i64 k, .int .u32 d] 24)
  have hg := Blk.new w 24 #[.int .i64 l, .int .i64 s, .int .i64 k, .int .u32 d]
  unfold pv
  go_enter Try.func3, Try.ntmps3
  go_wp2_with fail
  refine (awake11 _).mono ?_
  rintro e w1 ⟨rfl, b1⟩
  replace hg := hg.below b1 hg.lt
  replace hb := bstep hb b1
  clear b1
  obtain ⟨a0, a1, a2, a3, _⟩ := cells4 hg
  go_wp2_with fail
  go_ret
  exact ⟨rfl, hb⟩
set_option maxHeartbeats 600000 in
theorem cc_bad1 {l s k d i : Int} {A : Option Addr} {n c : Nat} {us : List UInt8} {w : World} (l2 : l ≤ 9223372036854775807) (h1 : n ≤ 2000) (h2 : s ≤ 2000) (hf : fitC l s k n ≠ 0) : Calls Try.prog 3 #[pv l s k d, .slice A n c, .int .i64 i] w (GridEnds (.bool true) w) := by
  have hb := balloc w (.cells #[.int .i64 l, .int .i64 s, .int .i64 k, .int .u32 d] 24)
  have hg := Blk.new w 24 #[.int .i64 l, .int .i64 s, .int .i64 k, .int .u32 d]
  have C1 := Lib.hid fun w => ccut_bad (l := l) (s := s) (k := k) (d := d) (A := A) (n := n) (c := c) (w := w) l2 hf
  have C2 := Lib.hid fun w => refcut_bad (l := l) (s := s) (k := k) (d := d) (A := A) (n := n) (c := c) (w := w) l2 hf
  have C3 := Lib.hid fun w => csym_bad (l := l) (s := s) (k := k) (d := d) (i := i) (A := A) (n := n) (c := c) (w := w) l2 hf
  have hs0 : sameRows [] [] = true := rfl
  have t := ne_code hf
  unfold pv at *
  clear hf l2
  generalize fitC l s k n = m at *
  go_enter Try.func3, Try.ntmps3
  go_wp2_with fail
  refine (awake11 _).mono ?_
  rintro e w1 ⟨rfl, b1⟩
  replace hg := hg.below b1 hg.lt
  replace hb := bstep hb b1
  clear b1
  obtain ⟨a0, a1, a2, a3, _⟩ := cells4 hg
  go_wp2_with fail
  refine (C1.out _).mono ?_
  rintro e w2 ⟨rfl, b2⟩
  replace hg := hg.below b2 hg.lt
  replace hb := bstep hb b2
  clear a0 a1 a2 a3 b2
  obtain ⟨a0, a1, a2, a3, _⟩ := cells4 hg
  go_wp2_with fail
  refine (C2.out _).mono ?_
  rintro e w3 ⟨rfl, b2⟩
  replace hg := hg.below b2 hg.lt
  replace hb := bstep hb b2
  clear a0 a1 a2 a3 b2
  obtain ⟨a0, a1, a2, a3, _⟩ := cells4 hg
  go_wp2_with fail
  refine (C3.out _).mono ?_
  rintro e w4 ⟨rfl, b2⟩
  replace hb := bstep hb b2
  clear a0 a1 a2 a3 b2
  go_wp2_with fail
  refine (refsame7_any (rows := []) (rows2 := []) (B := 0) (B2 := 0) Rds.nil Rds.nil (Nat.zero_le _) (Nat.zero_le _) (by omega) (fun r hr => by simp at hr)).mono ?_
  rintro e w5 ⟨rfl, b2⟩
  rw [hs0]
  replace hb := bstep hb b2
  clear b2
  go_wp2_with fail
  go_ret
  exact ⟨rfl, hb⟩
set_option maxHeartbeats 600000 in
theorem cc_bad2 {l s k d i : Int} {A : Option Addr} {n c : Nat} {us : List UInt8} {w : World} (l2 : l ≤ 9223372036854775807) (h1 : n ≤ 2000) (h2 : 2000 < s) (h3 : 65535 < s) (hf : fitC l s k n ≠ 0) : Calls Try.prog 3 #[pv l s k d, .slice A n c, .int .i64 i] w (GridEnds (.bool true) w) := by
  have hb := balloc w (.cells #[.int .i64 l, .int .i64 s, .int .i64 k, .int .u32 d] 24)
  have hg := Blk.new w 24 #[.int .i64 l, .int .i64 s, .int .i64 k, .int .u32 d]
  have C1 := Lib.hid fun w => ccut_bad (l := l) (s := s) (k := k) (d := d) (A := A) (n := n) (c := c) (w := w) l2 hf
  have C2 := Lib.hid fun w => refcut_bad (l := l) (s := s) (k := k) (d := d) (A := A) (n := n) (c := c) (w := w) l2 hf
  have C3 := Lib.hid fun w => csym_bad (l := l) (s := s) (k := k) (d := d) (i := i) (A := A) (n := n) (c := c) (w := w) l2 hf
  have hs0 : sameRows [] [] = true := rfl
  have t := ne_code hf
  unfold pv at *
  clear hf l2
  generalize fitC l s k n = m at *
  go_enter Try.func3, Try.ntmps3
  go_wp2_with fail
  refine (awake11 _).mono ?_
  rintro e w1 ⟨rfl, b1⟩
  replace hg := hg.below b1 hg.lt
  replace hb := bstep hb b1
  clear b1
  obtain ⟨a0, a1, a2, a3, _⟩ := cells4 hg
  go_wp2_with fail
  refine (C1.out _).mono ?_
  rintro e w2 ⟨rfl, b2⟩
  replace hg := hg.below b2 hg.lt
  replace hb := bstep hb b2
  clear a0 a1 a2 a3 b2
  obtain ⟨a0, a1, a2, a3, _⟩ := cells4 hg
  go_wp2_with fail
  refine (C2.out _).mono ?_
  rintro e w3 ⟨rfl, b2⟩
  replace hg := hg.below b2 hg.lt
  replace hb := bstep hb b2
  clear a0 a1 a2 a3 b2
  obtain ⟨a0, a1, a2, a3, _⟩ := cells4 hg
  go_wp2_with fail
  refine (C3.out _).mono ?_
  rintro e w4 ⟨rfl, b2⟩
  replace hb := bstep hb b2
  clear a0 a1 a2 a3 b2
  go_wp2_with fail
  refine (refsame7_any (rows := []) (rows2 := []) (B := 0) (B2 := 0) Rds.nil Rds.nil (Nat.zero_le _) (Nat.zero_le _) (by omega) (fun r hr => by simp at hr)).mono ?_
  rintro e w5 ⟨rfl, b2⟩
  rw [hs0]
  replace hb := bstep hb b2
  clear b2
  go_wp2_with fail
  go_ret
  exact ⟨rfl, hb⟩
set_option maxHeartbeats 1000000 in
theorem cc_out {n c S K : Nat} {d i : Int} {A : Option Addr} {us : List UInt8} {w : World} (h : Rd w w.heap.size A n us) (hc : n ≤ c) (hcc : c ≤ 9223372036854775807) (h1 : n ≤ 2000) (h2 : S ≤ 2000) (hi : i < 0 ∨ (K : Int) ≤ i) (hf : fitC n S K n = 0) : Calls Try.prog 3 #[pv n S K d, .slice A n c, .int .i64 i] w (GridEnds (.bool true) w) := by
  have hb := balloc w (.cells #[.int .i64 n, .int .i64 S, .int .i64 K, .int .u32 d] 24)
  have hg := Blk.new w 24 #[.int .i64 n, .int .i64 S, .int .i64 K, .int .u32 d]
  have C1 := Lib.hid fun (V : World) (hV : Below w.heap.size w V) => ccut_ok (d := d) (h.step hV) hc hcc hf
  have C2 := Lib.hid fun (V : World) (hV : Below w.heap.size w V) => refcut_ok (d := d) (h.step hV) hc hcc hf
  have C3 := Lib.hid fun (V : World) (hV : Below w.heap.size w V) => csym_out (l := n) (s := S) (k := K) (d := d) (i := i) (A := A) (n := n) (c := c) (w := V) (by omega) hf hi
  have h1' : (n : Int) ≤ 2000 := by omega
  have h2' : (S : Int) ≤ 2000 := by omega
  have HS := Lib.hid (syms_short (K := K) (us := us) (show S ≤ 65535 by omega))
  have HL := Lib.hid (symsL_len S K us)
  obtain ⟨L', S', K', e1, e2, e3, p1, p2, p3, p4, p5, p6, p7⟩ := plan_nat (fit_ok hf).1
  have hK : K ≤ 4096 := by omega
  clear e1 e2 e3 p1 p2 p3 p4 p5 p6 p7 L' S' K'
  unfold pv at *
  clear hf h hc hcc
  go_enter Try.func3, Try.ntmps3
  go_wp2_with fail
  refine (awake11 _).mono ?_
  rintro e w1 ⟨rfl, b1⟩
  replace hg := hg.below b1 hg.lt
  replace hb := bstep hb b1
  clear b1
  obtain ⟨a0, a1, a2, a3, _⟩ := cells4 hg
  go_wp2_with fail
  refine (C1.out _ hb).mono ?_
  rintro e w2 ⟨g, rfl, hF, _, _, b2⟩
  replace hg := hg.below b2 hg.lt
  replace hb := bstep hb b2
  have hR := hF.rds HL.out
  clear a0 a1 a2 a3 b2 hF
  obtain ⟨a0, a1, a2, a3, _⟩ := cells4 hg
  go_wp2_with fail
  refine (C2.out _ hb).mono ?_
  rintro e w3 ⟨A2, c2, rfl, hR2, _, b2⟩
  rw [HL.out] at hR2
  rw [HL.out]
  replace hR := hR.step b2
  replace hg := hg.below b2 hg.lt
  replace hb := bstep hb b2
  clear a0 a1 a2 a3 b2
  obtain ⟨a0, a1, a2, a3, _⟩ := cells4 hg
  go_wp2_with fail
  refine (C3.out _ hb).mono ?_
  rintro e w4 ⟨rfl, b2⟩
  replace hR := hR.step b2
  replace hR2 := hR2.step b2
  replace hb := bstep hb b2
  clear a0 a1 a2 a3 b2
  go_wp2_with fail
  refine (refsame7_any hR hR2 (Nat.le_refl _) (Nat.le_refl _) (by omega) HS.out).mono ?_
  rintro e w5 ⟨rfl, b2⟩
  rw [same_self]
  replace hb := bstep hb b2
  clear b2 hR hR2
  by_cases h0 : i < 0
  · clear hi
    go_wp2_with fail
    go_ret
    exact ⟨rfl, hb⟩
  · have h3 : 0 ≤ i := by omega
    have h4 : (K : Int) ≤ i := by omega
    clear hi h0
    go_wp2_with fail
    go_ret
    exact ⟨rfl, hb⟩
set_option maxHeartbeats 1000000 in
theorem cc_in {n c S K : Nat} {j : Nat} {d : Int} {A : Option Addr} {us : List UInt8} {w : World} (h : Rd w w.heap.size A n us) (hc : n ≤ c) (hcc : c ≤ 9223372036854775807) (h1 : n ≤ 2000) (h2 : S ≤ 2000) (hi : j < K) (hf : fitC n S K n = 0) : Calls Try.prog 3 #[pv n S K d, .slice A n c, .int .i64 j] w (GridEnds (.bool true) w) := by
  have hb := balloc w (.cells #[.int .i64 n, .int .i64 S, .int .i64 K, .int .u32 d] 24)
  have hg := Blk.new w 24 #[.int .i64 n, .int .i64 S, .int .i64 K, .int .u32 d]
  have C1 := Lib.hid fun (V : World) (hV : Below w.heap.size w V) => ccut_ok (d := d) (h.step hV) hc hcc hf
  have C2 := Lib.hid fun (V : World) (hV : Below w.heap.size w V) => refcut_ok (d := d) (h.step hV) hc hcc hf
  have C3 := Lib.hid fun (V : World) (hV : Below w.heap.size w V) => csym_ok (d := d) (i := j) (h.step hV) hc hcc hf hi
  have h1' : (n : Int) ≤ 2000 := by omega
  have h2' : (S : Int) ≤ 2000 := by omega
  have HS := Lib.hid (syms_short (K := K) (us := us) (show S ≤ 65535 by omega))
  have HL := Lib.hid (symsL_len S K us)
  obtain ⟨L', S', K', e1, e2, e3, p1, p2, p3, p4, p5, p6, p7⟩ := plan_nat (fit_ok hf).1
  have hK : K ≤ 4096 := by omega
  clear e1 e2 e3 p1 p2 p3 p4 p5 p6 p7 L' S' K'
  have HG := Lib.hid (symsL_get (S := S) us hi)
  have HJ := Lib.hid (symL_len S us j)
  have hi2 : (j : Int) < (K : Int) := by omega
  unfold pv at *
  clear hf h hc hcc
  go_enter Try.func3, Try.ntmps3
  go_wp2_with fail
  refine (awake11 _).mono ?_
  rintro e w1 ⟨rfl, b1⟩
  replace hg := hg.below b1 hg.lt
  replace hb := bstep hb b1
  clear b1
  obtain ⟨a0, a1, a2, a3, _⟩ := cells4 hg
  go_wp2_with fail
  refine (C1.out _ hb).mono ?_
  rintro e w2 ⟨g, rfl, hF, _, _, b2⟩
  replace hg := hg.below b2 hg.lt
  replace hb := bstep hb b2
  have hR := hF.rds HL.out
  clear a0 a1 a2 a3 b2 hF
  obtain ⟨a0, a1, a2, a3, _⟩ := cells4 hg
  go_wp2_with fail
  refine (C2.out _ hb).mono ?_
  rintro e w3 ⟨A2, c2, rfl, hR2, _, b2⟩
  rw [HL.out] at hR2
  rw [HL.out]
  replace hR := hR.step b2
  replace hg := hg.below b2 hg.lt
  replace hb := bstep hb b2
  clear a0 a1 a2 a3 b2
  obtain ⟨a0, a1, a2, a3, _⟩ := cells4 hg
  go_wp2_with fail
  refine (C3.out _ hb).mono ?_
  rintro e w4 ⟨g4, rfl, hu, b2⟩
  replace hR := hR.step b2
  replace hR2 := hR2.step b2
  replace hb := bstep hb b2
  have hr := (Rd.of_blk hu).more hu.lt
  rw [HJ.out] at hr
  clear a0 a1 a2 a3 b2 hu
  go_wp2_with fail
  refine (refsame7_any hR hR2 (Nat.le_refl _) (Nat.le_refl _) (by omega) HS.out).mono ?_
  rintro e w5 ⟨rfl, b2⟩
  rw [same_self]
  replace hb := bstep hb b2
  replace hr := hr.step b2
  obtain ⟨b, o, Ak, ck, rfl, hbB, hcell, hrj⟩ := (hR2.step b2).at_ hi
  rw [HG.out] at hcell hrj
  simp only [Option.getD_some] at hcell hrj
  rw [HJ.out] at hcell hrj
  clear b2 hR hR2
  go_wp2_with fail
  refine (same_any hr hrj (Nat.le_refl _) (Nat.le_refl _) (by omega)).mono ?_
  rintro e w6 ⟨rfl, b2⟩
  rw [beq_self_eq_true]
  go_wp2_with fail
  go_ret
  exact ⟨rfl, bstep hb b2⟩
theorem cutcuts_walk (l s k d : Int) (A : Option Addr) (n c : Nat) (us : List UInt8) (i : Int) (w : World) (wl : (Lit.int .i64 l).wf = true) (ws : (Lit.int .i64 s).wf = true) (wk : (Lit.int .i64 k).wf = true) (wd : (Lit.int .u32 d).wf = true) (r : Rd w w.heap.size A n us) (hn : n ≤ c ∧ c ≤ maxLen) (wi : (Lit.int .i64 i).wf = true) :
    Calls Try.prog 3 #[pv l s k d, .slice A n c, .int .i64 i] w fun e w' => e = .returned (.bool true) ∧ Below w.heap.size w w' := by
  have l2 := (bounds_i64 wl).2
  obtain ⟨hc, hcc⟩ := hn
  replace hcc : c ≤ 9223372036854775807 := by unfold maxLen at hcc; omega
  by_cases h1 : 2000 < n
  · exact cc_long (us := us) h1
  · by_cases h2 : 2000 < s
    · by_cases h3 : s ≤ 65535
      · exact cc_wide (us := us) (by omega) h2 h3
      · exact cc_bad2 (us := us) l2 (by omega) h2 (by omega) (fun e => h3 (bounds_ok (code_ok (fit_ok e).1).1).2.2.1)
    · by_cases hf : fitC l s k n = 0
      · obtain ⟨L, S, K, rfl, rfl, rfl, _⟩ := plan_nat (fit_ok hf).1
        obtain rfl : n = L := by have := (fit_ok hf).2; omega
        by_cases hi : i < 0 ∨ (K : Int) ≤ i
        · exact cc_out r hc hcc (by omega) (by omega) hi hf
        · obtain ⟨j, rfl⟩ : ∃ j : Nat, i = (j : Int) := ⟨i.toNat, by omega⟩
          exact cc_in r hc hcc (by omega) (by omega) (by omega) hf
      · exact cc_bad1 (us := us) l2 (by omega) (by omega) hf
end Go.Proofs.Ytheohcebiimdoaa
