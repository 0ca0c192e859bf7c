import Derived.Test.YtilelmejpbnbnaaKernD
/- Combinations are linear: plain facts on lists of bytes. -/
namespace Go.Proofs.Ytilelmejpbnbnaa
set_option linter.unusedVariables false

theorem ext_comb {m : Nat} {us vs : List UInt8} (hu : us.length = m) (hv : vs.length = m) (h : ∀ i, i < m → us[i]?.getD 0 = vs[i]?.getD 0) : us = vs := by
  apply List.ext_getElem?
  intro i
  by_cases hi : i < m
  · have := h i hi
    rw [List.getElem?_eq_getElem (by omega), List.getElem?_eq_getElem (by omega)] at this ⊢
    simpa using this
  · rw [List.getElem?_eq_none (by omega), List.getElem?_eq_none (by omega)]
theorem scaleL_length (c : UInt8) (us : List UInt8) : (scaleL c us).length = us.length := by simp [scaleL]
theorem scaleL_at (c : UInt8) (us : List UInt8) (i : Nat) : (scaleL c us)[i]?.getD 0 = gm c (us[i]?.getD 0) := by
  unfold scaleL
  by_cases h : i < us.length
  · simp [h]
  · simp [h, gm_zero_right]
theorem combR_some {cs : List UInt8} {rows : List (List UInt8)} {m n : Nat} (hc : cs.length = n) (hr : rows.length = n) (hn : 0 < n) (hm : first rows = m) (hl : lenB m rows = true) : combR cs rows = (combTo cs rows (nulls m) n, 0) := by
  subst hm
  unfold combR
  rw [if_neg (by omega), if_neg (by omega), if_pos hl, hr]
end Go.Proofs.Ytilelmejpbnbnaa
