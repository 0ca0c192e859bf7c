import Derived.Test.YtaidbcppecoenaaKernB
/- Combinations are linear: plain facts on lists of bytes. -/
namespace Go.Proofs.Ytaidbcppecoenaa
set_option linter.unusedVariables false

theorem ext_comb {m : Nat} {us vs : List UInt8} (hu : us.length = m) (hv : vs.length = m) (h : ∀ i, i < m → us[i]?.getD 0 = vs[i]?.getD 0) : us = vs := by
  apply List.ext_getElem?
  intro i
  by_cases hi : i < m
  · have := h i hi
    rw [List.getElem?_eq_getElem (by omega), List.getElem?_eq_getElem (by omega)] at this ⊢
    simpa using this
  · rw [List.getElem?_eq_none (by omega), List.getElem?_eq_none (by omega)]
theorem scaleL_length (c : UInt8) (us : List UInt8) : (scaleL c us).length = us.length := by simp [scaleL]
theorem scaleL_at (c : UInt8) (us : List UInt8) (i : Nat) : (scaleL c us)[i]?.getD 0 = gm c (us[i]?.getD 0) := by
  unfold scaleL
  by_cases h : i < us.length
  · simp [h]
  · simp [h, gm_zero_right]
end Go.Proofs.Ytaidbcppecoenaa

