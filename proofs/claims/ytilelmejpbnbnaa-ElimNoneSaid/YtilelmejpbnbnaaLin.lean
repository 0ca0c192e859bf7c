import Derived.Test.YtilelmejpbnbnaaKernD
/- Combinations are linear: plain facts on lists of bytes. -/
namespace Go.Proofs.Ytilelmejpbnbnaa
set_option linter.unusedVariables false

theorem scaleL_length (c : UInt8) (us : List UInt8) : (scaleL c us).length = us.length := by simp [scaleL]
theorem scaleL_at (c : UInt8) (us : List UInt8) (i : Nat) : (scaleL c us)[i]?.getD 0 = gm c (us[i]?.getD 0) := by
  unfold scaleL
  by_cases h : i < us.length
  · simp [h]
  · simp [h, gm_zero_right]
end Go.Proofs.Ytilelmejpbnbnaa
