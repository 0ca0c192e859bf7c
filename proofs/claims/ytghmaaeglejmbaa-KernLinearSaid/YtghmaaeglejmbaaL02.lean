import Derived.Test.YtghmaaeglejmbaaKernD
/- The statements of layer 2 (kern): what the law's text comes to, from the contracts of the functions that it calls. -/
namespace Go.Proofs.Ytghmaaeglejmbaa
open Go.ChangeShapes Go.WideShapes Go.ChangeAt Go.RowKit
open Go.ChangeMaps (open_string shut_string)
set_option linter.unusedVariables false
set_option maxRecDepth 100000

theorem awake2 (w : World) : Calls Try.prog 22 #[] w fun e w' => e = .returned (.bool true) ∧ Below w.heap.size w w' := by
  have hx : axpyR 2 [1, 128] [0, 1] = ([2, 28], 0) := by decide +kernel
  have hr1 : Rd ((w.alloc (.cells #[.int .u8 1, .int .u8 128] 5)).alloc (.cells #[.int .u8 0, .int .u8 1] 5)) (w.heap.size + 2) (some ⟨w.heap.size, 0, none⟩) 2 [1, 128] := (rd2 (by go_simp; rfl) (by go_simp; rfl)).more (by omega)
  have hr2 : Rd ((w.alloc (.cells #[.int .u8 1, .int .u8 128] 5)).alloc (.cells #[.int .u8 0, .int .u8 1] 5)) (w.heap.size + 2) (some ⟨w.heap.size + 1, 0, none⟩) 2 [0, 1] := (rd2 (by go_simp; rfl) (by go_simp; rfl)).more (by omega)
  have C := axpy_all (c := 2) (c2 := 2) 2 hr1 hr2 (by simp) (by simp) (by omega)
  rw [hx] at C
  have HC := Lib.hid C
  clear C hr1 hr2 hx
  go_enter Try.func22, Try.ntmps22
  go_wp2_with fail
  refine HC.out.mono ?_
  rintro e w1 ⟨A, n, c, rfl, hr, hn, hb⟩
  have hb2 : Below w.heap.size w w1 := ((balloc w _).trans ((balloc _ _).mono (by simp))).trans (hb.mono (by simp; omega))
  have hz := hb2.size
  clear hb
  have hr1 := hr.step (balloc w1 (.cells #[.int .u8 2, .int .u8 28] 5))
  have hr2 : Rd (w1.alloc (.cells #[.int .u8 2, .int .u8 28] 5)) (w1.heap.size + 1) (some ⟨w1.heap.size, 0, none⟩) 2 [2, 28] := rd2 (by go_simp; rfl) (by go_simp; rfl)
  have C := same_any (c := c) (c2 := 2) hr1 hr2 (Nat.le_refl _) (by simp) (by omega)
  rw [show ((([2, 28], 0) : List UInt8 × Int).1 == [2, 28]) = true from by decide] at C
  have HC2 := Lib.hid C
  clear C hr1 hr2 hr
  go_wp2_with fail
  refine HC2.out.mono ?_
  rintro e w2 ⟨rfl, hb⟩
  have hb3 : Below w.heap.size w w2 := (hb2.alloc hz _).trans (hb.mono (by simp; omega))
  go_wp2_with fail
  go_ret
  exact ⟨rfl, hb3⟩

theorem few_short {rows : List (List UInt8)} (h : fewB rows = true) : Short rows := by
  unfold fewB at h
  rw [Bool.and_eq_true] at h
  intro r hr
  have := List.all_eq_true.1 h.1 r hr
  simp at this
  omega
theorem few_length {rows : List (List UInt8)} (h : fewB rows = true) : rows.length ≤ 40 := by
  unfold fewB at h
  rw [Bool.and_eq_true] at h
  simpa using h.2

/-! ### KernReckons -/
def onesTo (n k : Nat) : List UInt8 := List.replicate k 1 ++ List.replicate (n - k) 0
theorem onesTo_set {n k : Nat} (h : k < n) : (onesTo n k).set k 1 = onesTo n (k + 1) := by
  unfold onesTo
  rw [List.set_append_right _ _ (by simp)]
  simp only [List.length_replicate, Nat.sub_self]
  rw [show n - k = (n - (k + 1)) + 1 by omega, List.replicate_succ, List.set_cons_zero, List.replicate_succ', List.append_assoc]
  rfl
theorem onesTo_get {n k : Nat} (h : k < n) : (onesTo n k)[k]? = some 0 := by
  unfold onesTo
  rw [List.getElem?_append_right (by simp), List.length_replicate, Nat.sub_self, List.getElem?_replicate, if_pos (by omega)]
theorem onesTo_all (n : Nat) : onesTo n n = ones n := by simp [onesTo, ones]
theorem onesTo_none (n : Nat) : onesTo n 0 = nulls n := by simp [onesTo, nulls]
theorem reckons2_few (x : UInt8) (A1 : Option Addr) (n1 c1 : Nat) (A2 : Option Addr) (n2 c2 : Nat) (cs : List UInt8) (rows : List (List UInt8)) (w : World) (r1 : Rd w w.heap.size A1 n1 cs) (r2 : Rds w w.heap.size A2 n2 rows) (l2 : n2 ≤ 9223372036854775807) (hf : fewB rows = false ∨ 100 < n1) :
    Calls Try.prog 7 #[.int .u8 (bv x), .slice A1 n1 c1, .slice A2 n2 c2] w fun e w' => e = .returned (.bool true) ∧ Below w.heap.size w w' := by
  cases hb : fewB rows
  · go_enter Try.func7, Try.ntmps7
    go_wp2_with fail
    refine (awake2 _).mono ?_
    rintro e w1 ⟨rfl, hb1⟩
    go_wp2_with fail
    refine (few_any (r2.step hb1) l2).mono ?_
    rintro e w' ⟨rfl, rfl⟩
    go_wp2_with fail
    go_ret
    exact ⟨rfl, hb1⟩
  · have h1 : 100 < n1 := by rcases hf with h | h; (rw [hb] at h; cases h); exact h
    go_enter Try.func7, Try.ntmps7
    go_wp2_with fail
    refine (awake2 _).mono ?_
    rintro e w1 ⟨rfl, hb1⟩
    go_wp2_with fail
    refine (few_any (r2.step hb1) l2).mono ?_
    rintro e w' ⟨rfl, rfl⟩
    go_wp2_with fail
    go_ret
    exact ⟨rfl, hb1⟩
set_option maxHeartbeats 1000000 in
theorem reckons2_main (x : UInt8) (A1 : Option Addr) (n1 c1 : Nat) (A2 : Option Addr) (n2 c2 : Nat) (cs : List UInt8) (rows : List (List UInt8)) (w : World) (r1 : Rd w w.heap.size A1 n1 cs) (r2 : Rds w w.heap.size A2 n2 rows) (hf : fewB rows = true) (h1 : n1 ≤ 100) :
    Calls Try.prog 7 #[.int .u8 (bv x), .slice A1 n1 c1, .slice A2 n2 c2] w fun e w' => e = .returned (.bool true) ∧ Below w.heap.size w w' := by
  have hs := few_short hf
  have l2 : n2 ≤ 40 := by rw [← r2.1]; exact few_length hf
  have Hs := Lib.hid hs
  have hmk := make_bytes n2 (by omega)
  clear hs
  go_enter Try.func7, Try.ntmps7
  go_wp2_with fail
  refine (awake2 _).mono ?_
  rintro e w1 ⟨rfl, hb1⟩
  go_wp2_with fail
  refine (few_any (r2.step hb1) (by omega)).mono ?_
  rintro e w' ⟨rfl, rfl⟩
  go_wp2_with fail
  have hg0 := Blk.new w1 5 (bvs (nulls n2)).toArray
  have hbA : Below w.heap.size w (w1.alloc (.cells (bvs (nulls n2)).toArray 5)) := bstep hb1 (balloc _ _)
  have hgw : w.heap.size ≤ w1.heap.size := hb1.size
  generalize w1.heap.size = g at *
  go_loopw [32] (fun i wr => ∃ k : Nat, k ≤ n2 ∧ i = .int .i64 k ∧ Blk wr g 5 (bvs (onesTo n2 k)).toArray ∧ Below w.heap.size w wr) (fun i _ => n2 - (intOf i).toNat)
  case atStart => exact ⟨0, by omega, rfl, by rw [onesTo_none]; exact hg0, hbA⟩
  case round =>
    clear hg0 hbA
    obtain ⟨k, hk, rfl, hg, hb⟩ := hrel
    have hgl := hg.lt
    by_cases hlt : k < n2
    · have hcs := (hg.cell k).trans (by simpa using bvs_get _ _ _ (onesTo_get hlt))
      have hfs := hg.frozen k
      have hG2 := hg.set k (.int .u8 (bv 1))
      rw [bvs_set, onesTo_set hlt] at hG2
      have HG2 := Lib.hid hG2
      clear hG2
      go_wp2_with fail
      go_roundw
      case rel => exact ⟨k + 1, by omega, by go_num, HG2.out, by go_grown⟩
      case measure => simp [intOf]; omega
    · obtain rfl : k = n2 := by omega
      rw [onesTo_all] at hg
      have ro0 := (Rd.of_blk hg).more (B' := wr.heap.size) hg.lt
      rw [ones_length] at ro0
      have q1 := (r1.below hb).more hb.size
      have q2 := (r2.below hb).more hb.size
      have E := r2.1
      rw [← ones_length rows.length] at E
      clear hg hgl
      have Hl := Lib.hid r2.1
      go_wp2_with fail
      refine (kcomb_all q1 q2 (Nat.le_refl _) (Nat.le_refl _) Hs.out (by omega)).mono ?_
      rintro e w3 ⟨A3, n3, c3, rfl, a3, m3, b3⟩
      replace q1 := q1.step b3
      replace q2 := q2.step b3
      replace ro0 := ro0.step b3
      replace hb := bstep hb b3
      clear b3
      go_wp2_with fail
      refine (refcomb_all q1 q2 (Nat.le_refl _) (Nat.le_refl _) Hs.out (by omega)).mono ?_
      rintro e w4 ⟨A4, n4, c4, rfl, a4, m4, b4⟩
      replace q1 := q1.step b4
      replace q2 := q2.step b4
      replace ro0 := ro0.step b4
      replace a3 := a3.step b4
      replace hb := bstep hb b4
      clear b4
      go_wp2_with fail
      refine (ksum_all q2 (Nat.le_refl _) Hs.out (by omega)).mono ?_
      rintro e w5 ⟨A5, n5, c5, rfl, a5, m5, b5⟩
      replace q1 := q1.step b5
      replace q2 := q2.step b5
      replace ro0 := ro0.step b5
      replace a3 := a3.step b5
      replace a4 := a4.step b5
      replace hb := bstep hb b5
      clear b5
      go_wp2_with fail
      refine (refcomb_all ro0 q2 (Nat.le_refl _) (Nat.le_refl _) Hs.out (by omega)).mono ?_
      rintro e w6 ⟨A6, n6, c6, rfl, a6, m6, b6⟩
      replace q1 := q1.step b6
      replace a3 := a3.step b6
      replace a4 := a4.step b6
      replace a5 := a5.step b6
      replace hb := bstep hb b6
      clear b6 ro0 q2
      go_wp2_with fail
      refine (same_any a3 a4 (Nat.le_refl _) (Nat.le_refl _) (by omega)).mono ?_
      rintro e w7 ⟨rfl, b7⟩
      replace q1 := q1.step b7
      replace a5 := a5.step b7
      replace a6 := a6.step b7
      replace hb := bstep hb b7
      clear b7 a3 a4
      have s1 : ((combR cs rows).1 == (combR cs rows).1) = true := by simp
      have s2 : ((combR (ones k) rows).1 == (combR (ones k) rows).1) = true := by simp
      go_wp2_with fail
      refine (same_any a5 a6 (Nat.le_refl _) (Nat.le_refl _) (by omega)).mono ?_
      rintro e w8 ⟨rfl, b8⟩
      replace q1 := q1.step b8
      replace hb := bstep hb b8
      clear b8 a5 a6
      go_wp2_with fail
      refine (kscale_says x q1 (Nat.le_refl _) (by omega)).mono ?_
      rintro e w9 ⟨A9, c9, rfl, a9, b9⟩
      replace q1 := q1.step b9
      replace hb := bstep hb b9
      clear b9
      go_wp2_with fail
      refine (refscale_any x q1 (Nat.le_refl _) (by omega)).mono ?_
      rintro e w10 ⟨A10, c10, rfl, a10, b10⟩
      replace q1 := q1.step b10
      replace a9 := a9.step b10
      replace hb := bstep hb b10
      clear b10
      go_wp2_with fail
      refine (same_any a9 a10 (Nat.le_refl _) (Nat.le_refl _) (by omega)).mono ?_
      rintro e w11 ⟨rfl, b11⟩
      replace q1 := q1.step b11
      replace hb := bstep hb b11
      clear b11 a9 a10
      go_wp2_with fail
      refine (kzero_any q1 (by omega)).mono ?_
      rintro e w' ⟨rfl, rfl⟩
      go_wp2_with fail
      refine (refzero_any q1 (by omega)).mono ?_
      rintro e w' ⟨rfl, rfl⟩
      go_wp2_with fail
      go_ret
      exact ⟨rfl, hb⟩
theorem reckons2_walk (x : UInt8) (A1 : Option Addr) (n1 c1 : Nat) (us : List UInt8) (A2 : Option Addr) (n2 c2 : Nat) (rows : List (List UInt8)) (w : World) (r1 : Rd w w.heap.size A1 n1 us) (l1 : n1 ≤ c1 ∧ c1 ≤ maxLen) (r2 : Rds w w.heap.size A2 n2 rows) (l2 : n2 ≤ c2 ∧ c2 ≤ maxLen) :
    Calls Try.prog 7 #[.int .u8 (bv x), .slice A1 n1 c1, .slice A2 n2 c2] w fun e w' => e = .returned (.bool true) ∧ Below w.heap.size w w' := by
  have h2 : n2 ≤ 9223372036854775807 := by have := l2; unfold maxLen at this; omega
  by_cases hf : fewB rows = true
  · by_cases h1 : n1 ≤ 100
    · exact reckons2_main x A1 n1 c1 A2 n2 c2 us rows w r1 r2 hf h1
    · exact reckons2_few x A1 n1 c1 A2 n2 c2 us rows w r1 r2 h2 (.inr (by omega))
  · exact reckons2_few x A1 n1 c1 A2 n2 c2 us rows w r1 r2 h2 (.inl (by simpa using hf))

/-! ### KernPairs -/
theorem pairs_eq (x : UInt8) (us vs : List UInt8) : combR [x, 1] [us, vs] = axpyR x us vs := by
  unfold combR axpyR first
  by_cases h : us.length = vs.length
  · have hb : lenB us.length [us, vs] = true := by simp [lenB, h]
    simp [h]
    have hb2 : lenB vs.length [us, vs] = true := by simp [lenB, h]
    rw [if_pos hb2]
    congr 1
    apply List.ext_getElem?
    intro i
    rw [combTo_get]
    by_cases hi : i < vs.length
    · simp [hi, colTo, addL, addTo, gm_one_left]
      exact UInt8.xor_comm _ _
    · simp [hi, addL, addTo]
  · have hb : lenB us.length [us, vs] = false := by
      unfold lenB
      rw [List.all_eq_false]
      exact ⟨vs, by simp, by simpa using fun e => h e.symm⟩
    simp [hb, h]
theorem rds2 {w : World} {g B n1 n2 c1 c2 : Nat} {A1 A2 : Option Addr} {us vs : List UInt8} (h0 : w.cell? ⟨g, 0, none⟩ = some (.slice A1 n1 c1)) (h1 : w.cell? ⟨g, 1, none⟩ = some (.slice A2 n2 c2)) (r1 : Rd w B A1 n1 us) (r2 : Rd w B A2 n2 vs) (hg : g < B) : Rds w B (some ⟨g, 0, none⟩) 2 [us, vs] := by
  refine ⟨rfl, fun _ => ⟨g, 0, rfl, hg, fun i ws hi => ?_⟩⟩
  match i, hi with
  | 0, hi => simp at hi; subst hi; refine ⟨A1, c1, ?_, ?_⟩ <;> rw [r1.1]; simpa using h0; exact r1
  | 1, hi => simp at hi; subst hi; refine ⟨A2, c2, ?_, ?_⟩ <;> rw [r2.1]; simpa using h1; exact r2
theorem pairs_big (x : UInt8) (A1 : Option Addr) (n1 c1 : Nat) (A2 : Option Addr) (n2 c2 : Nat) (w : World) (hf : 200 < n1 ∨ 200 < n2) :
    Calls Try.prog 8 #[.int .u8 (bv x), .slice A1 n1 c1, .slice A2 n2 c2] w fun e w' => e = .returned (.bool true) ∧ Below w.heap.size w w' := by
  by_cases h1 : 200 < n1
  · go_enter Try.func8, Try.ntmps8
    go_wp2_with fail
    refine (awake2 _).mono ?_
    rintro e w1 ⟨rfl, hb1⟩
    go_wp2_with fail
    go_ret
    exact ⟨rfl, hb1⟩
  · have h2 : 200 < n2 := by omega
    clear hf
    go_enter Try.func8, Try.ntmps8
    go_wp2_with fail
    refine (awake2 _).mono ?_
    rintro e w1 ⟨rfl, hb1⟩
    go_wp2_with fail
    go_ret
    exact ⟨rfl, hb1⟩
set_option maxHeartbeats 1000000 in
theorem pairs_main (x : UInt8) (A1 : Option Addr) (n1 c1 : Nat) (us : List UInt8) (A2 : Option Addr) (n2 c2 : Nat) (vs : List UInt8) (w : World) (r1 : Rd w w.heap.size A1 n1 us) (r2 : Rd w w.heap.size A2 n2 vs) (l1 : n1 ≤ 200) (l2 : n2 ≤ 200) :
    Calls Try.prog 8 #[.int .u8 (bv x), .slice A1 n1 c1, .slice A2 n2 c2] w fun e w' => e = .returned (.bool true) ∧ Below w.heap.size w w' := by
  have s1 : ((axpyR x us vs).1 == (axpyR x us vs).1) = true := by simp
  have hs : Short [us, vs] := by
    intro r hr
    simp at hr
    rcases hr with rfl | rfl
    · rw [r1.1]; omega
    · rw [r2.1]; omega
  have Hs := Lib.hid hs
  clear hs
  have Hp := Lib.hid (pairs_eq x us vs)
  go_enter Try.func8, Try.ntmps8
  go_wp2_with fail
  refine (awake2 _).mono ?_
  rintro e w1 ⟨rfl, hb⟩
  replace r1 := r1.step hb
  replace r2 := r2.step hb
  go_wp2_with fail
  refine (axpy_all x r1 r2 (Nat.le_refl _) (Nat.le_refl _) (by omega)).mono ?_
  rintro e w3 ⟨A3, n3, c3, rfl, a3, m3, b3⟩
  replace r1 := r1.step b3
  replace r2 := r2.step b3
  replace hb := bstep hb b3
  clear b3
  have hz := hb.size
  have bb : Below w3.heap.size w3 ((w3.alloc (.cells #[.int .u8 (bv x), .int .u8 1] 5)).alloc (.cells #[.slice A1 n1 c1, .slice A2 n2 c2] 22)) := by go_grown
  have g1 : Rd ((w3.alloc (.cells #[.int .u8 (bv x), .int .u8 1] 5)).alloc (.cells #[.slice A1 n1 c1, .slice A2 n2 c2] 22)) (w3.heap.size + 2) (some ⟨w3.heap.size, 0, none⟩) 2 [x, 1] := (rd2 (by go_simp) (by go_simp; rfl)).more (by omega)
  have g2 : Rds ((w3.alloc (.cells #[.int .u8 (bv x), .int .u8 1] 5)).alloc (.cells #[.slice A1 n1 c1, .slice A2 n2 c2] 22)) (w3.heap.size + 2) (some ⟨w3.heap.size + 1, 0, none⟩) 2 [us, vs] := rds2 (c1 := c1) (c2 := c2) (by go_simp) (by go_simp) ((r1.below bb).more (by omega)) ((r2.below bb).more (by omega)) (by omega)
  have hsz : w3.heap.size + 2 ≤ ((w3.alloc (.cells #[.int .u8 (bv x), .int .u8 1] 5)).alloc (.cells #[.slice A1 n1 c1, .slice A2 n2 c2] 22)).heap.size := by rw [World.size_alloc, World.size_alloc]; omega
  have C := refcomb_all (c := 2) (c2 := 2) g1 g2 hsz hsz Hs.out (by omega)
  rw [Hp.out] at C
  have HC := Lib.hid C
  clear C g1 g2
  go_wp2_with fail
  refine HC.out.mono ?_
  rintro e w4 ⟨A4, n4, c4, rfl, a4, m4, b4⟩
  have b4' : Below w3.heap.size w3 w4 := bb.trans (b4.mono (by simp; omega))
  clear b4 bb HC
  replace r1 := r1.step b4'
  replace r2 := r2.step b4'
  replace a3 := a3.step b4'
  replace hb := bstep hb b4'
  clear b4'
  go_wp2_with fail
  refine (kdot_all r1 r2 (Nat.le_refl _) (Nat.le_refl _) (by omega)).mono ?_
  rintro e w5 ⟨rfl, b5⟩
  replace r1 := r1.step b5
  replace r2 := r2.step b5
  replace a3 := a3.step b5
  replace a4 := a4.step b5
  replace hb := bstep hb b5
  clear b5
  go_wp2_with fail
  refine (refdot_all r1 r2 (Nat.le_refl _) (Nat.le_refl _) (by omega)).mono ?_
  rintro e w6 ⟨rfl, b6⟩
  replace a3 := a3.step b6
  replace a4 := a4.step b6
  replace hb := bstep hb b6
  clear b6
  go_wp2_with fail
  refine (same_any a3 a4 (Nat.le_refl _) (Nat.le_refl _) (by omega)).mono ?_
  rintro e w7 ⟨rfl, b7⟩
  replace hb := bstep hb b7
  clear b7 a3 a4
  go_wp2_with fail
  go_ret
  exact ⟨rfl, hb⟩
theorem pairs_walk (x : UInt8) (A1 : Option Addr) (n1 c1 : Nat) (us : List UInt8) (A2 : Option Addr) (n2 c2 : Nat) (vs : List UInt8) (w : World) (r1 : Rd w w.heap.size A1 n1 us) (l1 : n1 ≤ c1 ∧ c1 ≤ maxLen) (r2 : Rd w w.heap.size A2 n2 vs) (l2 : n2 ≤ c2 ∧ c2 ≤ maxLen) :
    Calls Try.prog 8 #[.int .u8 (bv x), .slice A1 n1 c1, .slice A2 n2 c2] w fun e w' => e = .returned (.bool true) ∧ Below w.heap.size w w' := by
  by_cases h : n1 ≤ 200 ∧ n2 ≤ 200
  · exact pairs_main x A1 n1 c1 us A2 n2 c2 vs w r1 r2 h.1 h.2
  · exact pairs_big x A1 n1 c1 A2 n2 c2 w (by omega)

/-! ### The frame of 'KernReckons' -/
namespace kernReckons
theorem own : ownKnob Try.prog.godebug = none := by kernel_rfl
theorem laidOut : laidOutB Try.prog = true := by kernel_rfl
theorem lifted (os : Os) (started : os.Started) (H : Type) (enc : TypeId × Value → H) :
    ReturnsInHanded {} Try.checked os 7 .any (Rows.kernReckonsSpec.pre6 enc Try.prog Try.f7 Rows.kernReckonsRow.domain false) (Rows.kernReckonsSpec.post enc Try.prog Try.f7 false true false false) := by
  refine returnsInHanded_of_change (C := Try.checked) own started (by kernel_rfl) Try.func7
    (ChangeSpec.witness6 (enc := enc) (C := Try.checked) false ⟨#[], #[.int .u8 0, .slice none 0 0, .slice none 0 0], []⟩ 8 (by kernel_rfl) (by kernel_rfl) (by kernel_rfl) (by kernel_rfl)) ?_
  intro W base args ds gs before hval0 hW hcnd _
  have hval : ∀ (j : Nat) t v, Try.f7.params[j]? = some t → args[j]? = some v → Value.okWide Try.prog W .any base t v := hval0
  have hW' := hW
  obtain ⟨p, q, hA0, hV, rfl, hfz, hnd⟩ := hW
  have hA : DataW.TrodAll enc Try.prog W 0 (fun _ => true) true Try.f7.params.toList args.toList ds p := hA0
  rw [Try.params7] at hA hval
  obtain ⟨v0, vs0, d0, ds0, p0, q0, hargs, rfl, rfl, h0, q0'⟩ := trodAll_cons hA
  obtain ⟨v1, vs1, d1, ds1, p1, q1, rfl, rfl, rfl, h1, q1'⟩ := trodAll_cons q0'
  obtain ⟨v2, vs2, d2, ds2, p2, q2, rfl, rfl, rfl, h2, q2'⟩ := trodAll_cons q1'
  obtain ⟨rfl, rfl, rfl⟩ := trodAll_nil q2'
  obtain rfl : args = #[v0, v1, v2] := by cases args; simp_all
  obtain ⟨rfl, rfl⟩ := trodVars_none hV
  have k0 := h0
  have lt0 : ∀ x ∈ p0, x.block < W.heap.size := by obtain ⟨m, hm⟩ := k0; exact DataW.trod_lt m _ _ _ hm
  have k1 := h1
  have lt1 : ∀ x ∈ p1, x.block < W.heap.size := by obtain ⟨m, hm⟩ := k1; exact DataW.trod_lt m _ _ _ hm
  have k2 := h2
  have lt2 : ∀ x ∈ p2, x.block < W.heap.size := by obtain ⟨m, hm⟩ := k2; exact DataW.trod_lt m _ _ _ hm
  obtain ⟨a0, rfl, rfl, rfl, w0⟩ := open_int Try.underlying5 (hval 0 5 v0 rfl rfl) h0
  obtain ⟨u0, rfl⟩ := byte_of w0
  obtain ⟨A1, n1, c1, rfl⟩ := okWide_slice Try.underlying22 (hval 1 22 v1 rfl rfl)
  obtain ⟨us1, r1, l1⟩ := bytes_arg Try.underlying22 Try.underlying5 (by kernel_rfl) h1
  obtain ⟨A2, n2, c2, rfl⟩ := okWide_slice Try.underlying41 (hval 2 41 v2 rfl rfl)
  obtain ⟨us2, r2, l2⟩ := rows_arg Try.underlying41 Try.underlying22 Try.underlying5 (by kernel_rfl) (by kernel_rfl) h2
  clear hA0 hval0
  refine (reckons2_walk u0 A1 n1 c1 us1 A2 n2 c2 us2 W r1 l1 r2 l2).mono fun e W' ⟨he, bel⟩ => ?_
  subst he
  exact ⟨_, rfl, _, _, _, [], _, [], hW', trodAll_mk1 (shut_bool Try.underlying4 _), (trodAll_cons_mk (Below.trod laidOut (by kernel_rfl) (of_decide_eq_true (by kernel_rfl)) k0 bel lt0) (trodAll_cons_mk (Below.trod laidOut (by kernel_rfl) (of_decide_eq_true (by kernel_rfl)) k1 bel lt1) (trodAll_cons_mk (Below.trod laidOut (by kernel_rfl) (of_decide_eq_true (by kernel_rfl)) k2 bel lt2) trodAll_mk0))), rfl, bel.frame _, fun h => by cases h⟩

theorem over : Rows.kernReckonsRow.holds Try.pinned (OpenSpec.ofChange Rows.kernReckonsSpec) :=
  OpenClaim.holds_of_wide 7 Try.f7 rfl rfl rfl rfl rfl rfl rfl ⟨rfl, rfl, rfl, rfl, rfl⟩ rfl rfl rfl rfl rfl (by kernel_rfl) Try.func7 (by kernel_rfl)
    (of_decide_eq_true (by kernel_rfl)) (by unfold Func.isWrapper; first | (rw [if_pos (by decide +kernel)]; kernel_rfl) | (rw [if_neg (by decide +kernel)]; exact ⟨rfl, rfl⟩))
    (fun os started H enc _ => lifted os started H enc)
/-- The statement. -/
theorem proved : Rows.KernReckonsSaid := over
end kernReckons

/-! ### The frame of 'KernPairs' -/
namespace kernPairs
theorem own : ownKnob Try.prog.godebug = none := by kernel_rfl
theorem laidOut : laidOutB Try.prog = true := by kernel_rfl
theorem lifted (os : Os) (started : os.Started) (H : Type) (enc : TypeId × Value → H) :
    ReturnsInHanded {} Try.checked os 8 .any (Rows.kernPairsSpec.pre6 enc Try.prog Try.f8 Rows.kernPairsRow.domain false) (Rows.kernPairsSpec.post enc Try.prog Try.f8 false true false false) := by
  refine returnsInHanded_of_change (C := Try.checked) own started (by kernel_rfl) Try.func8
    (ChangeSpec.witness6 (enc := enc) (C := Try.checked) false ⟨#[], #[.int .u8 0, .slice none 0 0, .slice none 0 0], []⟩ 8 (by kernel_rfl) (by kernel_rfl) (by kernel_rfl) (by kernel_rfl)) ?_
  intro W base args ds gs before hval0 hW hcnd _
  have hval : ∀ (j : Nat) t v, Try.f8.params[j]? = some t → args[j]? = some v → Value.okWide Try.prog W .any base t v := hval0
  have hW' := hW
  obtain ⟨p, q, hA0, hV, rfl, hfz, hnd⟩ := hW
  have hA : DataW.TrodAll enc Try.prog W 0 (fun _ => true) true Try.f8.params.toList args.toList ds p := hA0
  rw [Try.params8] at hA hval
  obtain ⟨v0, vs0, d0, ds0, p0, q0, hargs, rfl, rfl, h0, q0'⟩ := trodAll_cons hA
  obtain ⟨v1, vs1, d1, ds1, p1, q1, rfl, rfl, rfl, h1, q1'⟩ := trodAll_cons q0'
  obtain ⟨v2, vs2, d2, ds2, p2, q2, rfl, rfl, rfl, h2, q2'⟩ := trodAll_cons q1'
  obtain ⟨rfl, rfl, rfl⟩ := trodAll_nil q2'
  obtain rfl : args = #[v0, v1, v2] := by cases args; simp_all
  obtain ⟨rfl, rfl⟩ := trodVars_none hV
  have k0 := h0
  have lt0 : ∀ x ∈ p0, x.block < W.heap.size := by obtain ⟨m, hm⟩ := k0; exact DataW.trod_lt m _ _ _ hm
  have k1 := h1
  have lt1 : ∀ x ∈ p1, x.block < W.heap.size := by obtain ⟨m, hm⟩ := k1; exact DataW.trod_lt m _ _ _ hm
  have k2 := h2
  have lt2 : ∀ x ∈ p2, x.block < W.heap.size := by obtain ⟨m, hm⟩ := k2; exact DataW.trod_lt m _ _ _ hm
  obtain ⟨a0, rfl, rfl, rfl, w0⟩ := open_int Try.underlying5 (hval 0 5 v0 rfl rfl) h0
  obtain ⟨u0, rfl⟩ := byte_of w0
  obtain ⟨A1, n1, c1, rfl⟩ := okWide_slice Try.underlying22 (hval 1 22 v1 rfl rfl)
  obtain ⟨us1, r1, l1⟩ := bytes_arg Try.underlying22 Try.underlying5 (by kernel_rfl) h1
  obtain ⟨A2, n2, c2, rfl⟩ := okWide_slice Try.underlying22 (hval 2 22 v2 rfl rfl)
  obtain ⟨us2, r2, l2⟩ := bytes_arg Try.underlying22 Try.underlying5 (by kernel_rfl) h2
  clear hA0 hval0
  refine (pairs_walk u0 A1 n1 c1 us1 A2 n2 c2 us2 W r1 l1 r2 l2).mono fun e W' ⟨he, bel⟩ => ?_
  subst he
  exact ⟨_, rfl, _, _, _, [], _, [], hW', trodAll_mk1 (shut_bool Try.underlying4 _), (trodAll_cons_mk (Below.trod laidOut (by kernel_rfl) (of_decide_eq_true (by kernel_rfl)) k0 bel lt0) (trodAll_cons_mk (Below.trod laidOut (by kernel_rfl) (of_decide_eq_true (by kernel_rfl)) k1 bel lt1) (trodAll_cons_mk (Below.trod laidOut (by kernel_rfl) (of_decide_eq_true (by kernel_rfl)) k2 bel lt2) trodAll_mk0))), rfl, bel.frame _, fun h => by cases h⟩

theorem over : Rows.kernPairsRow.holds Try.pinned (OpenSpec.ofChange Rows.kernPairsSpec) :=
  OpenClaim.holds_of_wide 8 Try.f8 rfl rfl rfl rfl rfl rfl rfl ⟨rfl, rfl, rfl, rfl, rfl⟩ rfl rfl rfl rfl rfl (by kernel_rfl) Try.func8 (by kernel_rfl)
    (of_decide_eq_true (by kernel_rfl)) (by unfold Func.isWrapper; first | (rw [if_pos (by decide +kernel)]; kernel_rfl) | (rw [if_neg (by decide +kernel)]; exact ⟨rfl, rfl⟩))
    (fun os started H enc _ => lifted os started H enc)
/-- The statement. -/
theorem proved : Rows.KernPairsSaid := over
end kernPairs
end Go.Proofs.Ytghmaaeglejmbaa
