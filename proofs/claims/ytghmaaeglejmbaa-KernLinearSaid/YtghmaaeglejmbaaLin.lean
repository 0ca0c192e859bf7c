import Derived.Test.YtghmaaeglejmbaaKernD
/- Combinations are linear: plain facts on lists of bytes. -/
namespace Go.Proofs.Ytghmaaeglejmbaa
set_option linter.unusedVariables false

theorem ext_comb {m : Nat} {us vs : List UInt8} (hu : us.length = m) (hv : vs.length = m) (h : ∀ i, i < m → us[i]?.getD 0 = vs[i]?.getD 0) : us = vs := by
  apply List.ext_getElem?
  intro i
  by_cases hi : i < m
  · have := h i hi
    rw [List.getElem?_eq_getElem (by omega), List.getElem?_eq_getElem (by omega)] at this ⊢
    simpa using this
  · rw [List.getElem?_eq_none (by omega), List.getElem?_eq_none (by omega)]
theorem combTo_at (cs : List UInt8) (rows : List (List UInt8)) {m i : Nat} (k : Nat) (h : i < m) : (combTo cs rows (nulls m) k)[i]?.getD 0 = colTo cs rows i k := by
  rw [combTo_get, if_pos h]; rfl
/-- Two rows added. -/
def add2L (us vs : List UInt8) : List UInt8 := combTo (ones 2) [us, vs] (nulls us.length) 2
theorem add2L_length (us vs : List UInt8) : (add2L us vs).length = us.length := by rw [add2L, combTo_length, nulls_length]
theorem add2L_at (us vs : List UInt8) {i : Nat} (h : i < us.length) : (add2L us vs)[i]?.getD 0 = us[i]?.getD 0 ^^^ vs[i]?.getD 0 := by
  rw [add2L, combTo_at _ _ _ h]
  simp [colTo, ones, gm_one_left]
theorem colTo_add (a b : List UInt8) (rows : List (List UInt8)) (i k : Nat) (h : k ≤ a.length) (hab : a.length = b.length) : colTo (add2L a b) rows i k = colTo a rows i k ^^^ colTo b rows i k := by
  induction k with
  | zero => simp [colTo]
  | succ k ih =>
    simp only [colTo]
    rw [ih (by omega), add2L_at a b (by omega), gm_xor_left]
    ac_rfl
theorem scaleL_length (c : UInt8) (us : List UInt8) : (scaleL c us).length = us.length := by simp [scaleL]
theorem scaleL_at (c : UInt8) (us : List UInt8) (i : Nat) : (scaleL c us)[i]?.getD 0 = gm c (us[i]?.getD 0) := by
  unfold scaleL
  by_cases h : i < us.length
  · simp [h]
  · simp [h, gm_zero_right]
theorem colTo_scale (c : UInt8) (a : List UInt8) (rows : List (List UInt8)) (i k : Nat) : colTo (scaleL c a) rows i k = gm c (colTo a rows i k) := by
  induction k with
  | zero => simp [colTo, gm_zero_right]
  | succ k ih => simp only [colTo]; rw [ih, scaleL_at, gm_xor_right, gm_assoc]
theorem comb_add (a b : List UInt8) (rows : List (List UInt8)) (m n : Nat) (ha : a.length = n) (hb : b.length = n) :
    combTo (add2L a b) rows (nulls m) n = add2L (combTo a rows (nulls m) n) (combTo b rows (nulls m) n) := by
  have hl : (combTo a rows (nulls m) n).length = m := comb_len _ _ _ _
  refine ext_comb (m := m) (comb_len _ _ _ _) (by rw [add2L_length, hl]) fun i hi => ?_
  rw [combTo_at _ _ _ hi, add2L_at _ _ (by omega), combTo_at _ _ _ hi, combTo_at _ _ _ hi, colTo_add a b rows i n (by omega) (by omega)]
theorem comb_scale (c : UInt8) (a : List UInt8) (rows : List (List UInt8)) (m n : Nat) : combTo (scaleL c a) rows (nulls m) n = scaleL c (combTo a rows (nulls m) n) := by
  refine ext_comb (m := m) (comb_len _ _ _ _) (by rw [scaleL_length, comb_len]) fun i hi => ?_
  rw [combTo_at _ _ _ hi, scaleL_at, combTo_at _ _ _ hi, colTo_scale]
theorem scale_back {c : UInt8} (h : c ≠ 0) (us : List UInt8) : scaleL (ginv c) (scaleL c us) = us := by
  unfold scaleL
  rw [List.map_map]
  conv => rhs; rw [← List.map_id us]
  congr 1
  funext u
  simp only [Function.comp_apply, id_eq]
  rw [← gm_assoc, gm_comm (ginv c) c, gm_ginv h, gm_one_left]
theorem combR_some {cs : List UInt8} {rows : List (List UInt8)} {m n : Nat} (hc : cs.length = n) (hr : rows.length = n) (hn : 0 < n) (hm : first rows = m) (hl : lenB m rows = true) : combR cs rows = (combTo cs rows (nulls m) n, 0) := by
  subst hm
  unfold combR
  rw [if_neg (by omega), if_neg (by omega), if_pos hl, hr]
theorem combR_two {us vs : List UInt8} (h : us.length = vs.length) : combR (ones 2) [us, vs] = (add2L us vs, 0) :=
  combR_some (n := 2) (by simp [ones]) rfl (by omega) rfl (by simp [lenB, h])
end Go.Proofs.Ytghmaaeglejmbaa
