import Derived.Test.YtobggeapfbjkdaaL07A
/- GridTells: its walk. -/
namespace Go.Proofs.Ytobggeapfbjkdaa
open Go.RowKit
set_option linter.unusedVariables false
set_option maxRecDepth 100000

theorem gof_err {z : Int} {rows : List (List UInt8)} (h : (gofR z rows).2 ≠ 0) : (gofR z rows).1 = gv 0 [] := by
  unfold gofR at *
  split
  · rfl
  · split
    · rfl
    · split
      · rfl
      · rename_i h1 h2 h3
        rw [if_neg h1, if_neg h2, if_neg h3] at h
        exact absurd rfl h
theorem gof_good {z : Int} {rows : List (List UInt8)} (h : (gofR z rows).2 = 0) : ∃ K : Nat, z = (K : Int) ∧ GridOk K rows ∧ gofR z rows = (gv K rows, 0) := by
  unfold gofR at *
  by_cases h1 : z < 0 ∨ 65536 < z
  · rw [if_pos h1] at h; cases h
  · rw [if_neg h1] at h ⊢
    by_cases h2 : fitB rows.length z.toNat = false
    · rw [if_pos h2] at h; cases h
    · rw [if_neg h2] at h ⊢
      by_cases h3 : lenB z.toNat rows = false
      · rw [if_pos h3] at h; cases h
      · rw [if_neg h3]
        simp only [Bool.not_eq_false] at h2 h3
        simp [fitB] at h2
        exact ⟨z.toNat, by omega, ⟨h3, by omega, h2.1, h2.2⟩, rfl⟩
theorem rows_of_flat {k : Nat} {a b : List (List UInt8)} (ha : lenB k a = true) (hb : lenB k b = true) (hl : a.length = b.length) (h : a.flatten = b.flatten) : a = b := by
  apply List.ext_getElem?
  intro i
  by_cases hi : i < a.length
  · have h1 := flat_row ha hi
    have h2 := flat_row hb (hl ▸ hi)
    rw [h] at h1
    have := h1.symm.trans h2
    rw [List.getElem?_eq_getElem hi, List.getElem?_eq_getElem (hl ▸ hi)] at this ⊢
    simpa using this
  · rw [List.getElem?_eq_none (by omega), List.getElem?_eq_none (by omega)]
theorem sameG_eq {k k2 : Nat} {a b : List (List UInt8)} (ha : lenB k a = true) (hb : lenB k2 b = true) : sameG k a k2 b = (decide (k = k2) && sameRows a b) := by
  unfold sameG sameRows
  rw [Bool.eq_iff_iff]
  simp only [decide_eq_true_eq, Bool.and_eq_true]
  constructor
  · rintro ⟨h1, rfl, h2⟩; exact ⟨rfl, rows_of_flat ha hb h1 h2⟩
  · rintro ⟨rfl, rfl⟩; exact ⟨rfl, rfl, rfl⟩
theorem sameG_self (k : Nat) (a : List (List UInt8)) : sameG k a k a = true := by simp [sameG]
theorem sameRows_self (a : List (List UInt8)) : sameRows a a = true := by simp [sameRows]
theorem short_of {k : Nat} {a : List (List UInt8)} (h : GridOk k a) : Short a := by
  intro r hr
  have := List.all_eq_true.1 h.1 r hr
  simp at this
  have := h.2.1
  omega
theorem unit_at {n i k : Nat} (hi : i < n) (hk : k < n) : (unitL n i)[k]?.getD 0 = if k = i then 1 else 0 := by
  unfold unitL nulls
  by_cases h : k = i
  · subst h; rw [if_pos rfl, List.getElem?_set_self (by simpa using hk)]; rfl
  · rw [if_neg h, List.getElem?_set_ne (by omega), List.getElem?_replicate, if_pos hk]; rfl
theorem unitG_at {n i : Nat} (hi : i < n) : (unitG n)[i]?.getD [] = unitL n i := by simp [unitG, hi]

theorem tells_few (z : Int) (A : Option Addr) (n c : Nat) (rows : List (List UInt8)) (q : Int) (w : World) (z1 : -9223372036854775808 ≤ z) (z2 : z ≤ 9223372036854775807) (q1 : -9223372036854775808 ≤ q) (q2 : q ≤ 9223372036854775807) (h : Rds w w.heap.size A n rows) (hc : n ≤ c ∧ c ≤ maxLen) (hf : few7B rows = false) :
    Calls Try.prog 3 #[.int .i64 z, .slice A n c, .int .i64 q] w fun e w' => e = .returned (.bool true) ∧ Below w.heap.size w w' := by
  unfold maxLen at hc
  obtain ⟨hc1, hc2⟩ := hc
  have HF := Lib.hid hf
  clear hf
  go_enter Try.func3, Try.ntmps3
  go_wp2_with fail
  refine (awake7 _).mono ?_
  rintro e w1 ⟨rfl, hb⟩
  replace h := h.step hb
  go_wp2_with fail
  refine (few7_any h (by omega)).mono ?_
  rintro e w' ⟨rfl, rfl⟩
  rw [HF.out]
  go_wp2_with fail
  go_ret
  exact ⟨rfl, hb⟩
theorem tells_big (z : Int) (A : Option Addr) (n c : Nat) (rows : List (List UInt8)) (q : Int) (w : World) (z1 : -9223372036854775808 ≤ z) (z2 : z ≤ 9223372036854775807) (q1 : -9223372036854775808 ≤ q) (q2 : q ≤ 9223372036854775807) (h : Rds w w.heap.size A n rows) (hc : n ≤ c ∧ c ≤ maxLen) (hf : few7B rows = true) (hq1 : 40 < q) (hq2 : q ≤ 256) :
    Calls Try.prog 3 #[.int .i64 z, .slice A n c, .int .i64 q] w fun e w' => e = .returned (.bool true) ∧ Below w.heap.size w w' := by
  unfold maxLen at hc
  obtain ⟨hc1, hc2⟩ := hc
  have HF := Lib.hid hf
  clear hf
  go_enter Try.func3, Try.ntmps3
  go_wp2_with fail
  refine (awake7 _).mono ?_
  rintro e w1 ⟨rfl, hb⟩
  replace h := h.step hb
  go_wp2_with fail
  refine (few7_any h (by omega)).mono ?_
  rintro e w' ⟨rfl, rfl⟩
  rw [HF.out]
  go_wp2_with fail
  go_ret
  exact ⟨rfl, hb⟩
theorem tells_EN1 (z : Int) (A : Option Addr) (n c : Nat) (rows : List (List UInt8)) (q : Int) (w : World) (z1 : -9223372036854775808 ≤ z) (z2 : z ≤ 9223372036854775807) (q1 : -9223372036854775808 ≤ q) (q2 : q ≤ 9223372036854775807) (h : Rds w w.heap.size A n rows) (hc : n ≤ c ∧ c ≤ maxLen) (hf : few7B rows = true) (ho : (gofR z rows).2 ≠ 0) (hq : q < 0) :
    Calls Try.prog 3 #[.int .i64 z, .slice A n c, .int .i64 q] w fun e w' => e = .returned (.bool true) ∧ Below w.heap.size w w' := by
  unfold maxLen at hc
  obtain ⟨hc1, hc2⟩ := hc
  have HF := Lib.hid hf
  clear hf
  have HN := Lib.hid h.1
  have C1 := fun W h => gof_any (w := W) (B := W.heap.size) (A := A) (n := n) (c := c) (z := z) (rows := rows) h (Nat.le_refl _) hc1 (by omega) z1 z2
  have C2 := fun W h => refof_any (w := W) (B := W.heap.size) (A := A) (n := n) (c := c) (z := z) (rows := rows) h (by omega) z1 z2
  rw [gof_err ho] at C1
  obtain ⟨k, hk⟩ : ∃ k, (gofR z rows).2 = k := ⟨_, rfl⟩
  rw [hk] at C1 C2 ho
  have t1 : (k == 0) = false := by simpa using ho
  have t2 : (k != 0) = true := by simpa using ho
  simp only [gv_zero] at C1
  have C1' := Lib.hid C1
  have C2' := Lib.hid C2
  clear C1 C2 hk ho
  have CU := fun W => gunitn_bad q W q1 q2 (by omega)
  simp only [gv_zero] at CU
  have CU' := Lib.hid CU
  clear CU
  go_enter Try.func3, Try.ntmps3
  go_wp2_with fail
  refine (awake7 _).mono ?_
  rintro e w1 ⟨rfl, hb⟩
  replace h := h.step hb
  go_wp2_with fail
  refine (few7_any h (by omega)).mono ?_
  rintro e w' ⟨rfl, rfl⟩
  rw [HF.out]
  go_wp2_with fail
  refine (C1'.out _ h).mono ?_
  rintro e w2 ⟨rfl, b⟩
  replace hb := bstep hb b
  replace h := h.step b
  clear b C1'
  have g7 := Blk.new w2 26 #[.int .i64 0, .int .i64 0, .string { data := #[] }]
  have b := balloc w2 (.cells #[.int .i64 0, .int .i64 0, .string { data := #[] }] 26)
  replace hb := bstep hb b
  replace h := h.step b
  clear b
  have e7 := Lib.hid (Nat.lt_succ_self w2.heap.size)
  go_wp2_with fail
  generalize hW : w2.alloc (.cells #[.int .i64 0, .int .i64 0, .string { data := #[] }] 26) = W2 at *
  generalize w2.heap.size = x7 at *
  clear hW e7
  refine (CU'.out _).mono ?_
  rintro e w3 ⟨rfl, b⟩
  replace hb := bstep hb b
  replace h := h.step b
  replace g7 := g7.below b g7.lt
  clear b CU'
  have g9 := Blk.new w3 26 #[.int .i64 0, .int .i64 0, .string { data := #[] }]
  have b := balloc w3 (.cells #[.int .i64 0, .int .i64 0, .string { data := #[] }] 26)
  replace hb := bstep hb b
  replace h := h.step b
  replace g7 := g7.below b g7.lt
  clear b
  go_wp2_with fail
  generalize hW : w3.alloc (.cells #[.int .i64 0, .int .i64 0, .string { data := #[] }] 26) = W3 at *
  generalize w3.heap.size = x9 at *
  clear hW
  refine (C2'.out _ h).mono ?_
  rintro e w' ⟨rfl, rfl⟩
  clear C2'
  obtain ⟨c0, c1, c2, f0, f1, f2⟩ := cells3 g7
  obtain ⟨d0, d1, d2, i0, i1, i2⟩ := cells3 g9
  go_wp2_with fail
  refine ((show Calls Try.prog 14 #[gv 0 []] _ _ from gwidth_any 0 [] _)).mono ?_
  rintro e w4 ⟨rfl, b⟩
  replace hb := bstep hb b
  replace h := h.step b
  replace g7 := g7.below b g7.lt
  replace g9 := g9.below b g9.lt
  clear b
  clear c0 c1 c2 f0 f1 f2 d0 d1 d2 i0 i1 i2
  obtain ⟨c0, c1, c2, f0, f1, f2⟩ := cells3 g7
  obtain ⟨d0, d1, d2, i0, i1, i2⟩ := cells3 g9
  go_wp2_with fail
  refine ((show Calls Try.prog 15 #[gv 0 []] _ _ from gheight_any 0 [] _)).mono ?_
  rintro e w4 ⟨rfl, b⟩
  replace hb := bstep hb b
  replace h := h.step b
  replace g7 := g7.below b g7.lt
  replace g9 := g9.below b g9.lt
  clear b
  clear c0 c1 c2 f0 f1 f2 d0 d1 d2 i0 i1 i2
  obtain ⟨c0, c1, c2, f0, f1, f2⟩ := cells3 g7
  obtain ⟨d0, d1, d2, i0, i1, i2⟩ := cells3 g9
  go_wp2_with fail
  refine ((show Calls Try.prog 15 #[gv 0 []] _ _ from gheight_any 0 [] _)).mono ?_
  rintro e w4 ⟨rfl, b⟩
  replace hb := bstep hb b
  replace h := h.step b
  replace g7 := g7.below b g7.lt
  replace g9 := g9.below b g9.lt
  clear b
  clear c0 c1 c2 f0 f1 f2 d0 d1 d2 i0 i1 i2
  obtain ⟨c0, c1, c2, f0, f1, f2⟩ := cells3 g7
  obtain ⟨d0, d1, d2, i0, i1, i2⟩ := cells3 g9
  go_wp2_with fail
  go_ret
  exact ⟨rfl, hb⟩
theorem tells_EN2 (z : Int) (A : Option Addr) (n c : Nat) (rows : List (List UInt8)) (q : Int) (w : World) (z1 : -9223372036854775808 ≤ z) (z2 : z ≤ 9223372036854775807) (q1 : -9223372036854775808 ≤ q) (q2 : q ≤ 9223372036854775807) (h : Rds w w.heap.size A n rows) (hc : n ≤ c ∧ c ≤ maxLen) (hf : few7B rows = true) (ho : (gofR z rows).2 ≠ 0) (hq : 256 < q) :
    Calls Try.prog 3 #[.int .i64 z, .slice A n c, .int .i64 q] w fun e w' => e = .returned (.bool true) ∧ Below w.heap.size w w' := by
  unfold maxLen at hc
  obtain ⟨hc1, hc2⟩ := hc
  have HF := Lib.hid hf
  clear hf
  have HN := Lib.hid h.1
  have C1 := fun W h => gof_any (w := W) (B := W.heap.size) (A := A) (n := n) (c := c) (z := z) (rows := rows) h (Nat.le_refl _) hc1 (by omega) z1 z2
  have C2 := fun W h => refof_any (w := W) (B := W.heap.size) (A := A) (n := n) (c := c) (z := z) (rows := rows) h (by omega) z1 z2
  rw [gof_err ho] at C1
  obtain ⟨k, hk⟩ : ∃ k, (gofR z rows).2 = k := ⟨_, rfl⟩
  rw [hk] at C1 C2 ho
  have t1 : (k == 0) = false := by simpa using ho
  have t2 : (k != 0) = true := by simpa using ho
  simp only [gv_zero] at C1
  have C1' := Lib.hid C1
  have C2' := Lib.hid C2
  clear C1 C2 hk ho
  have CU := fun W => gunitn_bad q W q1 q2 (by omega)
  simp only [gv_zero] at CU
  have CU' := Lib.hid CU
  clear CU
  have q0 : 0 ≤ q := by omega
  go_enter Try.func3, Try.ntmps3
  go_wp2_with fail
  refine (awake7 _).mono ?_
  rintro e w1 ⟨rfl, hb⟩
  replace h := h.step hb
  go_wp2_with fail
  refine (few7_any h (by omega)).mono ?_
  rintro e w' ⟨rfl, rfl⟩
  rw [HF.out]
  go_wp2_with fail
  refine (C1'.out _ h).mono ?_
  rintro e w2 ⟨rfl, b⟩
  replace hb := bstep hb b
  replace h := h.step b
  clear b C1'
  have g7 := Blk.new w2 26 #[.int .i64 0, .int .i64 0, .string { data := #[] }]
  have b := balloc w2 (.cells #[.int .i64 0, .int .i64 0, .string { data := #[] }] 26)
  replace hb := bstep hb b
  replace h := h.step b
  clear b
  have e7 := Lib.hid (Nat.lt_succ_self w2.heap.size)
  go_wp2_with fail
  generalize hW : w2.alloc (.cells #[.int .i64 0, .int .i64 0, .string { data := #[] }] 26) = W2 at *
  generalize w2.heap.size = x7 at *
  clear hW e7
  refine (CU'.out _).mono ?_
  rintro e w3 ⟨rfl, b⟩
  replace hb := bstep hb b
  replace h := h.step b
  replace g7 := g7.below b g7.lt
  clear b CU'
  have g9 := Blk.new w3 26 #[.int .i64 0, .int .i64 0, .string { data := #[] }]
  have b := balloc w3 (.cells #[.int .i64 0, .int .i64 0, .string { data := #[] }] 26)
  replace hb := bstep hb b
  replace h := h.step b
  replace g7 := g7.below b g7.lt
  clear b
  go_wp2_with fail
  generalize hW : w3.alloc (.cells #[.int .i64 0, .int .i64 0, .string { data := #[] }] 26) = W3 at *
  generalize w3.heap.size = x9 at *
  clear hW
  refine (C2'.out _ h).mono ?_
  rintro e w' ⟨rfl, rfl⟩
  clear C2'
  obtain ⟨c0, c1, c2, f0, f1, f2⟩ := cells3 g7
  obtain ⟨d0, d1, d2, i0, i1, i2⟩ := cells3 g9
  go_wp2_with fail
  refine ((show Calls Try.prog 14 #[gv 0 []] _ _ from gwidth_any 0 [] _)).mono ?_
  rintro e w4 ⟨rfl, b⟩
  replace hb := bstep hb b
  replace h := h.step b
  replace g7 := g7.below b g7.lt
  replace g9 := g9.below b g9.lt
  clear b
  clear c0 c1 c2 f0 f1 f2 d0 d1 d2 i0 i1 i2
  obtain ⟨c0, c1, c2, f0, f1, f2⟩ := cells3 g7
  obtain ⟨d0, d1, d2, i0, i1, i2⟩ := cells3 g9
  go_wp2_with fail
  refine ((show Calls Try.prog 15 #[gv 0 []] _ _ from gheight_any 0 [] _)).mono ?_
  rintro e w4 ⟨rfl, b⟩
  replace hb := bstep hb b
  replace h := h.step b
  replace g7 := g7.below b g7.lt
  replace g9 := g9.below b g9.lt
  clear b
  clear c0 c1 c2 f0 f1 f2 d0 d1 d2 i0 i1 i2
  obtain ⟨c0, c1, c2, f0, f1, f2⟩ := cells3 g7
  obtain ⟨d0, d1, d2, i0, i1, i2⟩ := cells3 g9
  go_wp2_with fail
  refine ((show Calls Try.prog 15 #[gv 0 []] _ _ from gheight_any 0 [] _)).mono ?_
  rintro e w4 ⟨rfl, b⟩
  replace hb := bstep hb b
  replace h := h.step b
  replace g7 := g7.below b g7.lt
  replace g9 := g9.below b g9.lt
  clear b
  clear c0 c1 c2 f0 f1 f2 d0 d1 d2 i0 i1 i2
  obtain ⟨c0, c1, c2, f0, f1, f2⟩ := cells3 g7
  obtain ⟨d0, d1, d2, i0, i1, i2⟩ := cells3 g9
  go_wp2_with fail
  go_ret
  exact ⟨rfl, hb⟩
theorem tells_EN3 (z : Int) (A : Option Addr) (n c : Nat) (rows : List (List UInt8)) (q : Int) (w : World) (z1 : -9223372036854775808 ≤ z) (z2 : z ≤ 9223372036854775807) (q1 : -9223372036854775808 ≤ q) (q2 : q ≤ 9223372036854775807) (h : Rds w w.heap.size A n rows) (hc : n ≤ c ∧ c ≤ maxLen) (hf : few7B rows = true) (ho : (gofR z rows).2 ≠ 0) (hq : 0 ≤ q) (hq40 : q ≤ 40) :
    Calls Try.prog 3 #[.int .i64 z, .slice A n c, .int .i64 q] w fun e w' => e = .returned (.bool true) ∧ Below w.heap.size w w' := by
  unfold maxLen at hc
  obtain ⟨hc1, hc2⟩ := hc
  have HF := Lib.hid hf
  clear hf
  have HN := Lib.hid h.1
  have C1 := fun W h => gof_any (w := W) (B := W.heap.size) (A := A) (n := n) (c := c) (z := z) (rows := rows) h (Nat.le_refl _) hc1 (by omega) z1 z2
  have C2 := fun W h => refof_any (w := W) (B := W.heap.size) (A := A) (n := n) (c := c) (z := z) (rows := rows) h (by omega) z1 z2
  rw [gof_err ho] at C1
  obtain ⟨k, hk⟩ : ∃ k, (gofR z rows).2 = k := ⟨_, rfl⟩
  rw [hk] at C1 C2 ho
  have t1 : (k == 0) = false := by simpa using ho
  have t2 : (k != 0) = true := by simpa using ho
  simp only [gv_zero] at C1
  have C1' := Lib.hid C1
  have C2' := Lib.hid C2
  clear C1 C2 hk ho
  obtain ⟨N, rfl⟩ : ∃ N : Nat, q = (N : Int) := ⟨q.toNat, by omega⟩
  have hN : N ≤ 256 := by omega
  have CU := fun W => gunitn_ok N W hN
  have UH := fun W => gheight_any N (unitG N) W
  have UW := fun W => gwidth_any N (unitG N) W
  have UR := fun W => grows_any (w := W) (unitG_ok hN)
  have US := fun W => gsame_any N N (unitG N) (unitG N) W
  rw [sameG_self] at US
  rw [unitG_len] at UH
  have Hun := Lib.hid (unitG_len N)
  obtain ⟨d, f, s2, hu⟩ := gv_parts N (unitG N)
  simp only [hu] at CU UH UW UR US
  have CU' := Lib.hid CU
  have UH' := Lib.hid UH
  have UW' := Lib.hid UW
  have UR' := Lib.hid UR
  have US' := Lib.hid US
  clear CU UH UW UR US hu
  go_enter Try.func3, Try.ntmps3
  go_wp2_with fail
  refine (awake7 _).mono ?_
  rintro e w1 ⟨rfl, hb⟩
  replace h := h.step hb
  go_wp2_with fail
  refine (few7_any h (by omega)).mono ?_
  rintro e w' ⟨rfl, rfl⟩
  rw [HF.out]
  go_wp2_with fail
  refine (C1'.out _ h).mono ?_
  rintro e w2 ⟨rfl, b⟩
  replace hb := bstep hb b
  replace h := h.step b
  clear b C1'
  have g7 := Blk.new w2 26 #[.int .i64 0, .int .i64 0, .string { data := #[] }]
  have b := balloc w2 (.cells #[.int .i64 0, .int .i64 0, .string { data := #[] }] 26)
  replace hb := bstep hb b
  replace h := h.step b
  clear b
  have e7 := Lib.hid (Nat.lt_succ_self w2.heap.size)
  go_wp2_with fail
  generalize hW : w2.alloc (.cells #[.int .i64 0, .int .i64 0, .string { data := #[] }] 26) = W2 at *
  generalize w2.heap.size = x7 at *
  clear hW e7
  refine (CU'.out _).mono ?_
  rintro e w3 ⟨rfl, b⟩
  replace hb := bstep hb b
  replace h := h.step b
  replace g7 := g7.below b g7.lt
  clear b CU'
  have g9 := Blk.new w3 26 #[.int .i64 d, .int .i64 f, .string s2]
  have b := balloc w3 (.cells #[.int .i64 d, .int .i64 f, .string s2] 26)
  replace hb := bstep hb b
  replace h := h.step b
  replace g7 := g7.below b g7.lt
  clear b
  go_wp2_with fail
  generalize hW : w3.alloc (.cells #[.int .i64 d, .int .i64 f, .string s2] 26) = W3 at *
  generalize w3.heap.size = x9 at *
  clear hW
  refine (C2'.out _ h).mono ?_
  rintro e w' ⟨rfl, rfl⟩
  clear C2'
  obtain ⟨c0, c1, c2, f0, f1, f2⟩ := cells3 g7
  obtain ⟨d0, d1, d2, i0, i1, i2⟩ := cells3 g9
  go_wp2_with fail
  refine ((show Calls Try.prog 14 #[gv 0 []] _ _ from gwidth_any 0 [] _)).mono ?_
  rintro e w4 ⟨rfl, b⟩
  replace hb := bstep hb b
  replace h := h.step b
  replace g7 := g7.below b g7.lt
  replace g9 := g9.below b g9.lt
  clear b
  clear c0 c1 c2 f0 f1 f2 d0 d1 d2 i0 i1 i2
  obtain ⟨c0, c1, c2, f0, f1, f2⟩ := cells3 g7
  obtain ⟨d0, d1, d2, i0, i1, i2⟩ := cells3 g9
  go_wp2_with fail
  refine ((show Calls Try.prog 15 #[gv 0 []] _ _ from gheight_any 0 [] _)).mono ?_
  rintro e w4 ⟨rfl, b⟩
  replace hb := bstep hb b
  replace h := h.step b
  replace g7 := g7.below b g7.lt
  replace g9 := g9.below b g9.lt
  clear b
  clear c0 c1 c2 f0 f1 f2 d0 d1 d2 i0 i1 i2
  obtain ⟨c0, c1, c2, f0, f1, f2⟩ := cells3 g7
  obtain ⟨d0, d1, d2, i0, i1, i2⟩ := cells3 g9
  go_wp2_with fail
  refine (UR'.out _).mono ?_
  rintro e w6 ⟨A6, n6, c6, rfl, l6, l7, r6, b⟩
  replace hb := bstep hb b
  replace h := h.step b
  replace g7 := g7.below b g7.lt
  replace g9 := g9.below b g9.lt
  clear b
  have hn6 : N = n6 := Hun.out.symm.trans r6.1
  subst hn6
  clear c0 c1 c2 f0 f1 f2 d0 d1 d2 i0 i1 i2
  go_wp2_with fail
  go_loop [96] (fun i => ∃ k : Nat, k ≤ N ∧ i = .int .i64 k) (fun i => N - (intOf i).toNat)
  case atStart => exact ⟨0, by omega, rfl⟩
  case round =>
    obtain ⟨k, hk, rfl⟩ := hrel
    by_cases hlt : k < N
    · obtain ⟨b6, o6, Ak, ck, rfl, _, hc6, hr6⟩ := r6.at_ hlt
      rw [unitG_at hlt] at hc6 hr6
      rw [unitL_length] at hc6 hr6
      go_wp2_with fail
      go_loop [103] (fun i => ∃ j : Nat, j ≤ N ∧ i = .int .i64 j) (fun i => N - (intOf i).toNat)
      case atStart => exact ⟨0, by omega, rfl⟩
      case round =>
        obtain ⟨j, hj, rfl⟩ := hrel
        by_cases hjn : j < N
        · obtain ⟨b7, o7, rfl, _, hc7⟩ := hr6.at_ hjn
          rw [unit_at hlt hjn] at hc7
          by_cases hjk : j = k
          · subst hjk
            rw [if_pos rfl, show bv 1 = 1 from rfl] at hc7
            go_wp2_with fail
            go_round
            case rel => exact ⟨j + 1, by omega, by go_num⟩
            case measure => simp [intOf]; omega
          · rw [if_neg hjk, show bv 0 = 0 from rfl] at hc7
            have t5 : ((k : Int) == (j : Int)) = false := by simp; omega
            clear hjk
            go_wp2_with fail
            go_round
            case rel => exact ⟨j + 1, by omega, by go_num⟩
            case measure => simp [intOf]; omega
        · obtain rfl : j = N := by omega
          go_wp2_with fail
          go_round
          case rel => exact ⟨k + 1, by omega, by go_num⟩
          case measure => simp [intOf]; omega
    · obtain rfl : k = N := by omega
      clear hlt
      obtain ⟨c0, c1, c2, f0, f1, f2⟩ := cells3 g7
      obtain ⟨d0, d1, d2, i0, i1, i2⟩ := cells3 g9
      go_wp2_with fail
      refine (UH'.out _).mono ?_
      rintro e w4 ⟨rfl, b⟩
      replace hb := bstep hb b
      replace h := h.step b
      replace g7 := g7.below b g7.lt
      replace g9 := g9.below b g9.lt
      clear b
      clear c0 c1 c2 f0 f1 f2 d0 d1 d2 i0 i1 i2
      obtain ⟨c0, c1, c2, f0, f1, f2⟩ := cells3 g7
      obtain ⟨d0, d1, d2, i0, i1, i2⟩ := cells3 g9
      go_wp2_with fail
      refine (UW'.out _).mono ?_
      rintro e w4 ⟨rfl, b⟩
      replace hb := bstep hb b
      replace h := h.step b
      replace g7 := g7.below b g7.lt
      replace g9 := g9.below b g9.lt
      clear b
      clear c0 c1 c2 f0 f1 f2 d0 d1 d2 i0 i1 i2
      obtain ⟨c0, c1, c2, f0, f1, f2⟩ := cells3 g7
      obtain ⟨d0, d1, d2, i0, i1, i2⟩ := cells3 g9
      go_wp2_with fail
      refine (US'.out _).mono ?_
      rintro e w4 ⟨rfl, b⟩
      replace hb := bstep hb b
      replace h := h.step b
      replace g7 := g7.below b g7.lt
      replace g9 := g9.below b g9.lt
      clear b
      clear c0 c1 c2 f0 f1 f2 d0 d1 d2 i0 i1 i2
      obtain ⟨c0, c1, c2, f0, f1, f2⟩ := cells3 g7
      obtain ⟨d0, d1, d2, i0, i1, i2⟩ := cells3 g9
      go_wp2_with fail
      go_ret
      exact ⟨rfl, hb⟩
theorem tells_ON1 (z : Int) (A : Option Addr) (n c : Nat) (rows : List (List UInt8)) (q : Int) (w : World) (z1 : -9223372036854775808 ≤ z) (z2 : z ≤ 9223372036854775807) (q1 : -9223372036854775808 ≤ q) (q2 : q ≤ 9223372036854775807) (h : Rds w w.heap.size A n rows) (hc : n ≤ c ∧ c ≤ maxLen) (hf : few7B rows = true) (ho : (gofR z rows).2 = 0) (hq : q < 0) :
    Calls Try.prog 3 #[.int .i64 z, .slice A n c, .int .i64 q] w fun e w' => e = .returned (.bool true) ∧ Below w.heap.size w w' := by
  unfold maxLen at hc
  obtain ⟨hc1, hc2⟩ := hc
  have HF := Lib.hid hf
  clear hf
  have HN := Lib.hid h.1
  obtain ⟨K, rfl, hok, he⟩ := gof_good ho
  have C1 := fun W h => gof_any (w := W) (B := W.heap.size) (A := A) (n := n) (c := c) (z := (K : Int)) (rows := rows) h (Nat.le_refl _) hc1 (by omega) z1 z2
  have C2 := fun W h => refof_any (w := W) (B := W.heap.size) (A := A) (n := n) (c := c) (z := (K : Int)) (rows := rows) h (by omega) z1 z2
  rw [he] at C1 C2
  have CH := fun W => gheight_any K rows W
  have CW := fun W => gwidth_any K rows W
  have CR := fun W => grows_any (w := W) hok
  have hsh := Lib.hid (short_of hok)
  have HK := Lib.hid hok
  obtain ⟨a, b, s, hg⟩ := gv_parts K rows
  rw [h.1] at CH
  simp only [hg] at C1 CH CW CR
  have C1' := Lib.hid C1
  have C2' := Lib.hid C2
  have CH' := Lib.hid CH
  have CW' := Lib.hid CW
  have CR' := Lib.hid CR
  clear C1 C2 CH CW CR he ho hg hok
  have CU := fun W => gunitn_bad q W q1 q2 (by omega)
  simp only [gv_zero] at CU
  have CU' := Lib.hid CU
  clear CU
  go_enter Try.func3, Try.ntmps3
  go_wp2_with fail
  refine (awake7 _).mono ?_
  rintro e w1 ⟨rfl, hb⟩
  replace h := h.step hb
  go_wp2_with fail
  refine (few7_any h (by omega)).mono ?_
  rintro e w' ⟨rfl, rfl⟩
  rw [HF.out]
  go_wp2_with fail
  refine (C1'.out _ h).mono ?_
  rintro e w2 ⟨rfl, b⟩
  replace hb := bstep hb b
  replace h := h.step b
  clear b C1'
  have g7 := Blk.new w2 26 #[.int .i64 a, .int .i64 b, .string s]
  have b := balloc w2 (.cells #[.int .i64 a, .int .i64 b, .string s] 26)
  replace hb := bstep hb b
  replace h := h.step b
  clear b
  have e7 := Lib.hid (Nat.lt_succ_self w2.heap.size)
  go_wp2_with fail
  generalize hW : w2.alloc (.cells #[.int .i64 a, .int .i64 b, .string s] 26) = W2 at *
  generalize w2.heap.size = x7 at *
  clear hW e7
  refine (CU'.out _).mono ?_
  rintro e w3 ⟨rfl, b⟩
  replace hb := bstep hb b
  replace h := h.step b
  replace g7 := g7.below b g7.lt
  clear b CU'
  have g9 := Blk.new w3 26 #[.int .i64 0, .int .i64 0, .string { data := #[] }]
  have b := balloc w3 (.cells #[.int .i64 0, .int .i64 0, .string { data := #[] }] 26)
  replace hb := bstep hb b
  replace h := h.step b
  replace g7 := g7.below b g7.lt
  clear b
  go_wp2_with fail
  generalize hW : w3.alloc (.cells #[.int .i64 0, .int .i64 0, .string { data := #[] }] 26) = W3 at *
  generalize w3.heap.size = x9 at *
  clear hW
  refine (C2'.out _ h).mono ?_
  rintro e w' ⟨rfl, rfl⟩
  clear C2'
  obtain ⟨c0, c1, c2, f0, f1, f2⟩ := cells3 g7
  obtain ⟨d0, d1, d2, i0, i1, i2⟩ := cells3 g9
  go_wp2_with fail
  refine (CW'.out _).mono ?_
  rintro e w4 ⟨rfl, b⟩
  replace hb := bstep hb b
  replace h := h.step b
  replace g7 := g7.below b g7.lt
  replace g9 := g9.below b g9.lt
  clear b
  clear c0 c1 c2 f0 f1 f2 d0 d1 d2 i0 i1 i2
  obtain ⟨c0, c1, c2, f0, f1, f2⟩ := cells3 g7
  obtain ⟨d0, d1, d2, i0, i1, i2⟩ := cells3 g9
  go_wp2_with fail
  refine (CH'.out _).mono ?_
  rintro e w4 ⟨rfl, b⟩
  replace hb := bstep hb b
  replace h := h.step b
  replace g7 := g7.below b g7.lt
  replace g9 := g9.below b g9.lt
  clear b
  clear c0 c1 c2 f0 f1 f2 d0 d1 d2 i0 i1 i2
  obtain ⟨c0, c1, c2, f0, f1, f2⟩ := cells3 g7
  obtain ⟨d0, d1, d2, i0, i1, i2⟩ := cells3 g9
  go_wp2_with fail
  refine (CR'.out _).mono ?_
  rintro e w4 ⟨A4, n4, c4, rfl, l4, l5, r4, b⟩
  replace hb := bstep hb b
  replace h := h.step b
  replace g7 := g7.below b g7.lt
  replace g9 := g9.below b g9.lt
  clear b
  clear c0 c1 c2 f0 f1 f2 d0 d1 d2 i0 i1 i2
  obtain ⟨c0, c1, c2, f0, f1, f2⟩ := cells3 g7
  obtain ⟨d0, d1, d2, i0, i1, i2⟩ := cells3 g9
  go_wp2_with fail
  refine (refsame7_any r4 h (Nat.le_refl _) (Nat.le_refl _) (by omega) hsh.out).mono ?_
  rintro e w5 ⟨rfl, b⟩
  rw [sameRows_self]
  replace hb := bstep hb b
  replace h := h.step b
  replace g7 := g7.below b g7.lt
  replace g9 := g9.below b g9.lt
  clear b r4
  clear c0 c1 c2 f0 f1 f2 d0 d1 d2 i0 i1 i2
  obtain ⟨c0, c1, c2, f0, f1, f2⟩ := cells3 g7
  obtain ⟨d0, d1, d2, i0, i1, i2⟩ := cells3 g9
  go_wp2_with fail
  refine ((show Calls Try.prog 15 #[gv 0 []] _ _ from gheight_any 0 [] _)).mono ?_
  rintro e w4 ⟨rfl, b⟩
  replace hb := bstep hb b
  replace h := h.step b
  replace g7 := g7.below b g7.lt
  replace g9 := g9.below b g9.lt
  clear b
  clear c0 c1 c2 f0 f1 f2 d0 d1 d2 i0 i1 i2
  obtain ⟨c0, c1, c2, f0, f1, f2⟩ := cells3 g7
  obtain ⟨d0, d1, d2, i0, i1, i2⟩ := cells3 g9
  go_wp2_with fail
  go_ret
  exact ⟨rfl, hb⟩
theorem tells_ON2 (z : Int) (A : Option Addr) (n c : Nat) (rows : List (List UInt8)) (q : Int) (w : World) (z1 : -9223372036854775808 ≤ z) (z2 : z ≤ 9223372036854775807) (q1 : -9223372036854775808 ≤ q) (q2 : q ≤ 9223372036854775807) (h : Rds w w.heap.size A n rows) (hc : n ≤ c ∧ c ≤ maxLen) (hf : few7B rows = true) (ho : (gofR z rows).2 = 0) (hq : 256 < q) :
    Calls Try.prog 3 #[.int .i64 z, .slice A n c, .int .i64 q] w fun e w' => e = .returned (.bool true) ∧ Below w.heap.size w w' := by
  unfold maxLen at hc
  obtain ⟨hc1, hc2⟩ := hc
  have HF := Lib.hid hf
  clear hf
  have HN := Lib.hid h.1
  obtain ⟨K, rfl, hok, he⟩ := gof_good ho
  have C1 := fun W h => gof_any (w := W) (B := W.heap.size) (A := A) (n := n) (c := c) (z := (K : Int)) (rows := rows) h (Nat.le_refl _) hc1 (by omega) z1 z2
  have C2 := fun W h => refof_any (w := W) (B := W.heap.size) (A := A) (n := n) (c := c) (z := (K : Int)) (rows := rows) h (by omega) z1 z2
  rw [he] at C1 C2
  have CH := fun W => gheight_any K rows W
  have CW := fun W => gwidth_any K rows W
  have CR := fun W => grows_any (w := W) hok
  have hsh := Lib.hid (short_of hok)
  have HK := Lib.hid hok
  obtain ⟨a, b, s, hg⟩ := gv_parts K rows
  rw [h.1] at CH
  simp only [hg] at C1 CH CW CR
  have C1' := Lib.hid C1
  have C2' := Lib.hid C2
  have CH' := Lib.hid CH
  have CW' := Lib.hid CW
  have CR' := Lib.hid CR
  clear C1 C2 CH CW CR he ho hg hok
  have CU := fun W => gunitn_bad q W q1 q2 (by omega)
  simp only [gv_zero] at CU
  have CU' := Lib.hid CU
  clear CU
  have q0 : 0 ≤ q := by omega
  go_enter Try.func3, Try.ntmps3
  go_wp2_with fail
  refine (awake7 _).mono ?_
  rintro e w1 ⟨rfl, hb⟩
  replace h := h.step hb
  go_wp2_with fail
  refine (few7_any h (by omega)).mono ?_
  rintro e w' ⟨rfl, rfl⟩
  rw [HF.out]
  go_wp2_with fail
  refine (C1'.out _ h).mono ?_
  rintro e w2 ⟨rfl, b⟩
  replace hb := bstep hb b
  replace h := h.step b
  clear b C1'
  have g7 := Blk.new w2 26 #[.int .i64 a, .int .i64 b, .string s]
  have b := balloc w2 (.cells #[.int .i64 a, .int .i64 b, .string s] 26)
  replace hb := bstep hb b
  replace h := h.step b
  clear b
  have e7 := Lib.hid (Nat.lt_succ_self w2.heap.size)
  go_wp2_with fail
  generalize hW : w2.alloc (.cells #[.int .i64 a, .int .i64 b, .string s] 26) = W2 at *
  generalize w2.heap.size = x7 at *
  clear hW e7
  refine (CU'.out _).mono ?_
  rintro e w3 ⟨rfl, b⟩
  replace hb := bstep hb b
  replace h := h.step b
  replace g7 := g7.below b g7.lt
  clear b CU'
  have g9 := Blk.new w3 26 #[.int .i64 0, .int .i64 0, .string { data := #[] }]
  have b := balloc w3 (.cells #[.int .i64 0, .int .i64 0, .string { data := #[] }] 26)
  replace hb := bstep hb b
  replace h := h.step b
  replace g7 := g7.below b g7.lt
  clear b
  go_wp2_with fail
  generalize hW : w3.alloc (.cells #[.int .i64 0, .int .i64 0, .string { data := #[] }] 26) = W3 at *
  generalize w3.heap.size = x9 at *
  clear hW
  refine (C2'.out _ h).mono ?_
  rintro e w' ⟨rfl, rfl⟩
  clear C2'
  obtain ⟨c0, c1, c2, f0, f1, f2⟩ := cells3 g7
  obtain ⟨d0, d1, d2, i0, i1, i2⟩ := cells3 g9
  go_wp2_with fail
  refine (CW'.out _).mono ?_
  rintro e w4 ⟨rfl, b⟩
  replace hb := bstep hb b
  replace h := h.step b
  replace g7 := g7.below b g7.lt
  replace g9 := g9.below b g9.lt
  clear b
  clear c0 c1 c2 f0 f1 f2 d0 d1 d2 i0 i1 i2
  obtain ⟨c0, c1, c2, f0, f1, f2⟩ := cells3 g7
  obtain ⟨d0, d1, d2, i0, i1, i2⟩ := cells3 g9
  go_wp2_with fail
  refine (CH'.out _).mono ?_
  rintro e w4 ⟨rfl, b⟩
  replace hb := bstep hb b
  replace h := h.step b
  replace g7 := g7.below b g7.lt
  replace g9 := g9.below b g9.lt
  clear b
  clear c0 c1 c2 f0 f1 f2 d0 d1 d2 i0 i1 i2
  obtain ⟨c0, c1, c2, f0, f1, f2⟩ := cells3 g7
  obtain ⟨d0, d1, d2, i0, i1, i2⟩ := cells3 g9
  go_wp2_with fail
  refine (CR'.out _).mono ?_
  rintro e w4 ⟨A4, n4, c4, rfl, l4, l5, r4, b⟩
  replace hb := bstep hb b
  replace h := h.step b
  replace g7 := g7.below b g7.lt
  replace g9 := g9.below b g9.lt
  clear b
  clear c0 c1 c2 f0 f1 f2 d0 d1 d2 i0 i1 i2
  obtain ⟨c0, c1, c2, f0, f1, f2⟩ := cells3 g7
  obtain ⟨d0, d1, d2, i0, i1, i2⟩ := cells3 g9
  go_wp2_with fail
  refine (refsame7_any r4 h (Nat.le_refl _) (Nat.le_refl _) (by omega) hsh.out).mono ?_
  rintro e w5 ⟨rfl, b⟩
  rw [sameRows_self]
  replace hb := bstep hb b
  replace h := h.step b
  replace g7 := g7.below b g7.lt
  replace g9 := g9.below b g9.lt
  clear b r4
  clear c0 c1 c2 f0 f1 f2 d0 d1 d2 i0 i1 i2
  obtain ⟨c0, c1, c2, f0, f1, f2⟩ := cells3 g7
  obtain ⟨d0, d1, d2, i0, i1, i2⟩ := cells3 g9
  go_wp2_with fail
  refine ((show Calls Try.prog 15 #[gv 0 []] _ _ from gheight_any 0 [] _)).mono ?_
  rintro e w4 ⟨rfl, b⟩
  replace hb := bstep hb b
  replace h := h.step b
  replace g7 := g7.below b g7.lt
  replace g9 := g9.below b g9.lt
  clear b
  clear c0 c1 c2 f0 f1 f2 d0 d1 d2 i0 i1 i2
  obtain ⟨c0, c1, c2, f0, f1, f2⟩ := cells3 g7
  obtain ⟨d0, d1, d2, i0, i1, i2⟩ := cells3 g9
  go_wp2_with fail
  go_ret
  exact ⟨rfl, hb⟩
theorem tells_ON3 (z : Int) (A : Option Addr) (n c : Nat) (rows : List (List UInt8)) (q : Int) (w : World) (z1 : -9223372036854775808 ≤ z) (z2 : z ≤ 9223372036854775807) (q1 : -9223372036854775808 ≤ q) (q2 : q ≤ 9223372036854775807) (h : Rds w w.heap.size A n rows) (hc : n ≤ c ∧ c ≤ maxLen) (hf : few7B rows = true) (ho : (gofR z rows).2 = 0) (hq : 0 ≤ q) (hq40 : q ≤ 40) :
    Calls Try.prog 3 #[.int .i64 z, .slice A n c, .int .i64 q] w fun e w' => e = .returned (.bool true) ∧ Below w.heap.size w w' := by
  unfold maxLen at hc
  obtain ⟨hc1, hc2⟩ := hc
  have HF := Lib.hid hf
  clear hf
  have HN := Lib.hid h.1
  obtain ⟨K, rfl, hok, he⟩ := gof_good ho
  have C1 := fun W h => gof_any (w := W) (B := W.heap.size) (A := A) (n := n) (c := c) (z := (K : Int)) (rows := rows) h (Nat.le_refl _) hc1 (by omega) z1 z2
  have C2 := fun W h => refof_any (w := W) (B := W.heap.size) (A := A) (n := n) (c := c) (z := (K : Int)) (rows := rows) h (by omega) z1 z2
  rw [he] at C1 C2
  have CH := fun W => gheight_any K rows W
  have CW := fun W => gwidth_any K rows W
  have CR := fun W => grows_any (w := W) hok
  have CS := fun W k2 r2 => gsame_any K k2 rows r2 W
  have hsh := Lib.hid (short_of hok)
  have HK := Lib.hid hok
  obtain ⟨a, b, s, hg⟩ := gv_parts K rows
  rw [h.1] at CH
  simp only [hg] at C1 CH CW CR CS
  have CS' := Lib.hid CS
  clear CS
  have C1' := Lib.hid C1
  have C2' := Lib.hid C2
  have CH' := Lib.hid CH
  have CW' := Lib.hid CW
  have CR' := Lib.hid CR
  clear C1 C2 CH CW CR he ho hg hok
  obtain ⟨N, rfl⟩ : ∃ N : Nat, q = (N : Int) := ⟨q.toNat, by omega⟩
  have hN : N ≤ 256 := by omega
  have CU := fun W => gunitn_ok N W hN
  have UH := fun W => gheight_any N (unitG N) W
  have UW := fun W => gwidth_any N (unitG N) W
  have UR := fun W => grows_any (w := W) (unitG_ok hN)
  have US := fun W => gsame_any N N (unitG N) (unitG N) W
  rw [sameG_self] at US
  rw [unitG_len] at UH
  have UX := fun W => CS'.out W N (unitG N)
  rw [sameG_eq HK.out.1 (unitG_ok hN).1] at UX
  clear CS' 
  have Hun := Lib.hid (unitG_len N)
  obtain ⟨d, f, s2, hu⟩ := gv_parts N (unitG N)
  simp only [hu] at CU UH UW UR US UX
  have CU' := Lib.hid CU
  have UH' := Lib.hid UH
  have UW' := Lib.hid UW
  have UR' := Lib.hid UR
  have US' := Lib.hid US
  have UX' := Lib.hid UX
  clear CU UH UW UR US UX hu
  go_enter Try.func3, Try.ntmps3
  go_wp2_with fail
  refine (awake7 _).mono ?_
  rintro e w1 ⟨rfl, hb⟩
  replace h := h.step hb
  go_wp2_with fail
  refine (few7_any h (by omega)).mono ?_
  rintro e w' ⟨rfl, rfl⟩
  rw [HF.out]
  go_wp2_with fail
  refine (C1'.out _ h).mono ?_
  rintro e w2 ⟨rfl, b⟩
  replace hb := bstep hb b
  replace h := h.step b
  clear b C1'
  have g7 := Blk.new w2 26 #[.int .i64 a, .int .i64 b, .string s]
  have b := balloc w2 (.cells #[.int .i64 a, .int .i64 b, .string s] 26)
  replace hb := bstep hb b
  replace h := h.step b
  clear b
  have e7 := Lib.hid (Nat.lt_succ_self w2.heap.size)
  go_wp2_with fail
  generalize hW : w2.alloc (.cells #[.int .i64 a, .int .i64 b, .string s] 26) = W2 at *
  generalize w2.heap.size = x7 at *
  clear hW e7
  refine (CU'.out _).mono ?_
  rintro e w3 ⟨rfl, b⟩
  replace hb := bstep hb b
  replace h := h.step b
  replace g7 := g7.below b g7.lt
  clear b CU'
  have g9 := Blk.new w3 26 #[.int .i64 d, .int .i64 f, .string s2]
  have b := balloc w3 (.cells #[.int .i64 d, .int .i64 f, .string s2] 26)
  replace hb := bstep hb b
  replace h := h.step b
  replace g7 := g7.below b g7.lt
  clear b
  go_wp2_with fail
  generalize hW : w3.alloc (.cells #[.int .i64 d, .int .i64 f, .string s2] 26) = W3 at *
  generalize w3.heap.size = x9 at *
  clear hW
  refine (C2'.out _ h).mono ?_
  rintro e w' ⟨rfl, rfl⟩
  clear C2'
  obtain ⟨c0, c1, c2, f0, f1, f2⟩ := cells3 g7
  obtain ⟨d0, d1, d2, i0, i1, i2⟩ := cells3 g9
  go_wp2_with fail
  refine (CW'.out _).mono ?_
  rintro e w4 ⟨rfl, b⟩
  replace hb := bstep hb b
  replace h := h.step b
  replace g7 := g7.below b g7.lt
  replace g9 := g9.below b g9.lt
  clear b
  clear c0 c1 c2 f0 f1 f2 d0 d1 d2 i0 i1 i2
  obtain ⟨c0, c1, c2, f0, f1, f2⟩ := cells3 g7
  obtain ⟨d0, d1, d2, i0, i1, i2⟩ := cells3 g9
  go_wp2_with fail
  refine (CH'.out _).mono ?_
  rintro e w4 ⟨rfl, b⟩
  replace hb := bstep hb b
  replace h := h.step b
  replace g7 := g7.below b g7.lt
  replace g9 := g9.below b g9.lt
  clear b
  clear c0 c1 c2 f0 f1 f2 d0 d1 d2 i0 i1 i2
  obtain ⟨c0, c1, c2, f0, f1, f2⟩ := cells3 g7
  obtain ⟨d0, d1, d2, i0, i1, i2⟩ := cells3 g9
  go_wp2_with fail
  refine (CR'.out _).mono ?_
  rintro e w4 ⟨A4, n4, c4, rfl, l4, l5, r4, b⟩
  replace hb := bstep hb b
  replace h := h.step b
  replace g7 := g7.below b g7.lt
  replace g9 := g9.below b g9.lt
  clear b
  clear c0 c1 c2 f0 f1 f2 d0 d1 d2 i0 i1 i2
  obtain ⟨c0, c1, c2, f0, f1, f2⟩ := cells3 g7
  obtain ⟨d0, d1, d2, i0, i1, i2⟩ := cells3 g9
  go_wp2_with fail
  refine (refsame7_any r4 h (Nat.le_refl _) (Nat.le_refl _) (by omega) hsh.out).mono ?_
  rintro e w5 ⟨rfl, b⟩
  rw [sameRows_self]
  replace hb := bstep hb b
  replace h := h.step b
  replace g7 := g7.below b g7.lt
  replace g9 := g9.below b g9.lt
  clear b r4
  clear c0 c1 c2 f0 f1 f2 d0 d1 d2 i0 i1 i2
  obtain ⟨c0, c1, c2, f0, f1, f2⟩ := cells3 g7
  obtain ⟨d0, d1, d2, i0, i1, i2⟩ := cells3 g9
  go_wp2_with fail
  refine (UR'.out _).mono ?_
  rintro e w6 ⟨A6, n6, c6, rfl, l6, l7, r6, b⟩
  replace hb := bstep hb b
  replace h := h.step b
  replace g7 := g7.below b g7.lt
  replace g9 := g9.below b g9.lt
  clear b
  have hn6 : N = n6 := Hun.out.symm.trans r6.1
  subst hn6
  clear c0 c1 c2 f0 f1 f2 d0 d1 d2 i0 i1 i2
  go_wp2_with fail
  go_loop [96] (fun i => ∃ k : Nat, k ≤ N ∧ i = .int .i64 k) (fun i => N - (intOf i).toNat)
  case atStart => exact ⟨0, by omega, rfl⟩
  case round =>
    obtain ⟨k, hk, rfl⟩ := hrel
    by_cases hlt : k < N
    · obtain ⟨b6, o6, Ak, ck, rfl, _, hc6, hr6⟩ := r6.at_ hlt
      rw [unitG_at hlt] at hc6 hr6
      rw [unitL_length] at hc6 hr6
      go_wp2_with fail
      go_loop [103] (fun i => ∃ j : Nat, j ≤ N ∧ i = .int .i64 j) (fun i => N - (intOf i).toNat)
      case atStart => exact ⟨0, by omega, rfl⟩
      case round =>
        obtain ⟨j, hj, rfl⟩ := hrel
        by_cases hjn : j < N
        · obtain ⟨b7, o7, rfl, _, hc7⟩ := hr6.at_ hjn
          rw [unit_at hlt hjn] at hc7
          by_cases hjk : j = k
          · subst hjk
            rw [if_pos rfl, show bv 1 = 1 from rfl] at hc7
            go_wp2_with fail
            go_round
            case rel => exact ⟨j + 1, by omega, by go_num⟩
            case measure => simp [intOf]; omega
          · rw [if_neg hjk, show bv 0 = 0 from rfl] at hc7
            have t5 : ((k : Int) == (j : Int)) = false := by simp; omega
            clear hjk
            go_wp2_with fail
            go_round
            case rel => exact ⟨j + 1, by omega, by go_num⟩
            case measure => simp [intOf]; omega
        · obtain rfl : j = N := by omega
          go_wp2_with fail
          go_round
          case rel => exact ⟨k + 1, by omega, by go_num⟩
          case measure => simp [intOf]; omega
    · obtain rfl : k = N := by omega
      clear hlt
      obtain ⟨c0, c1, c2, f0, f1, f2⟩ := cells3 g7
      obtain ⟨d0, d1, d2, i0, i1, i2⟩ := cells3 g9
      go_wp2_with fail
      refine (UH'.out _).mono ?_
      rintro e w4 ⟨rfl, b⟩
      replace hb := bstep hb b
      replace h := h.step b
      replace g7 := g7.below b g7.lt
      replace g9 := g9.below b g9.lt
      clear b
      clear c0 c1 c2 f0 f1 f2 d0 d1 d2 i0 i1 i2
      obtain ⟨c0, c1, c2, f0, f1, f2⟩ := cells3 g7
      obtain ⟨d0, d1, d2, i0, i1, i2⟩ := cells3 g9
      go_wp2_with fail
      refine (UW'.out _).mono ?_
      rintro e w4 ⟨rfl, b⟩
      replace hb := bstep hb b
      replace h := h.step b
      replace g7 := g7.below b g7.lt
      replace g9 := g9.below b g9.lt
      clear b
      clear c0 c1 c2 f0 f1 f2 d0 d1 d2 i0 i1 i2
      obtain ⟨c0, c1, c2, f0, f1, f2⟩ := cells3 g7
      obtain ⟨d0, d1, d2, i0, i1, i2⟩ := cells3 g9
      go_wp2_with fail
      refine (US'.out _).mono ?_
      rintro e w4 ⟨rfl, b⟩
      replace hb := bstep hb b
      replace h := h.step b
      replace g7 := g7.below b g7.lt
      replace g9 := g9.below b g9.lt
      clear b
      clear c0 c1 c2 f0 f1 f2 d0 d1 d2 i0 i1 i2
      obtain ⟨c0, c1, c2, f0, f1, f2⟩ := cells3 g7
      obtain ⟨d0, d1, d2, i0, i1, i2⟩ := cells3 g9
      go_wp2_with fail
      by_cases hKN : K = k
      · subst hKN
        rw [decide_eq_true (rfl : K = K), Bool.true_and] at UX'
        refine (UX'.out _).mono ?_
        rintro e w4 ⟨rfl, b⟩
        replace hb := bstep hb b
        replace h := h.step b
        replace g7 := g7.below b g7.lt
        replace g9 := g9.below b g9.lt
        clear b
        clear c0 c1 c2 f0 f1 f2 d0 d1 d2 i0 i1 i2
        obtain ⟨c0, c1, c2, f0, f1, f2⟩ := cells3 g7
        obtain ⟨d0, d1, d2, i0, i1, i2⟩ := cells3 g9
        go_wp2_with fail
        refine (UR'.out _).mono ?_
        rintro e w4 ⟨A8, n8, c8, rfl, l8, l9, r8, b⟩
        replace hb := bstep hb b
        replace h := h.step b
        replace g7 := g7.below b g7.lt
        replace g9 := g9.below b g9.lt
        clear b
        clear c0 c1 c2 f0 f1 f2 d0 d1 d2 i0 i1 i2
        obtain ⟨c0, c1, c2, f0, f1, f2⟩ := cells3 g7
        obtain ⟨d0, d1, d2, i0, i1, i2⟩ := cells3 g9
        go_wp2_with fail
        refine (refsame7_any h r8 (Nat.le_refl _) (Nat.le_refl _) (by omega) hsh.out).mono ?_
        rintro e w5 ⟨rfl, b⟩
        replace hb := bstep hb b
        replace h := h.step b
        replace g7 := g7.below b g7.lt
        replace g9 := g9.below b g9.lt
        clear b
        clear c0 c1 c2 f0 f1 f2 d0 d1 d2 i0 i1 i2
        go_wp2_with fail
        go_ret
        exact ⟨by simp, hb⟩
      · rw [decide_eq_false hKN, Bool.false_and] at UX'
        have t6 : ((K : Int) == (k : Int)) = false := by simp; omega
        refine (UX'.out _).mono ?_
        rintro e w4 ⟨rfl, b⟩
        replace hb := bstep hb b
        replace h := h.step b
        replace g7 := g7.below b g7.lt
        replace g9 := g9.below b g9.lt
        clear b
        clear c0 c1 c2 f0 f1 f2 d0 d1 d2 i0 i1 i2
        go_wp2_with fail
        go_ret
        exact ⟨rfl, hb⟩
theorem tells_walk (z : Int) (A : Option Addr) (n c : Nat) (rows : List (List UInt8)) (q : Int) (w : World) (wz : (Lit.int .i64 z).wf = true) (h : Rds w w.heap.size A n rows) (hc : n ≤ c ∧ c ≤ maxLen) (wq : (Lit.int .i64 q).wf = true) :
    Calls Try.prog 3 #[.int .i64 z, .slice A n c, .int .i64 q] w fun e w' => e = .returned (.bool true) ∧ Below w.heap.size w w' := by
  have bz := bounds_i64 wz
  have bq := bounds_i64 wq
  cases hf : few7B rows
  · exact tells_few z A n c rows q w (by omega) (by omega) (by omega) (by omega) h hc hf
  · by_cases h1 : 40 < q ∧ q ≤ 256
    · exact tells_big z A n c rows q w (by omega) (by omega) (by omega) (by omega) h hc hf h1.1 h1.2
    · by_cases ho : (gofR z rows).2 = 0
      · by_cases h2 : q < 0
        · exact tells_ON1 z A n c rows q w (by omega) (by omega) (by omega) (by omega) h hc hf ho h2
        · by_cases h3 : 256 < q
          · exact tells_ON2 z A n c rows q w (by omega) (by omega) (by omega) (by omega) h hc hf ho h3
          · exact tells_ON3 z A n c rows q w (by omega) (by omega) (by omega) (by omega) h hc hf ho (by omega) (by omega)
      · by_cases h2 : q < 0
        · exact tells_EN1 z A n c rows q w (by omega) (by omega) (by omega) (by omega) h hc hf ho h2
        · by_cases h3 : 256 < q
          · exact tells_EN2 z A n c rows q w (by omega) (by omega) (by omega) (by omega) h hc hf ho h3
          · exact tells_EN3 z A n c rows q w (by omega) (by omega) (by omega) (by omega) h hc hf ho (by omega) (by omega)
end Go.Proofs.Ytobggeapfbjkdaa
