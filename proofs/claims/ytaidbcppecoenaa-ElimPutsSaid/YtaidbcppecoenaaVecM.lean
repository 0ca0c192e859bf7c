import Derived.Test.YtaidbcppecoenaaVecB
import Derived.Test.YtaidbcppecoenaaLin
/- Rows, normed and taken away: plain facts on lists of bytes. -/
namespace Go.Proofs.Ytaidbcppecoenaa
set_option linter.unusedVariables false

theorem addL_at (c : UInt8) (us ss : List UInt8) {i : Nat} (h : i < ss.length) : (addL c us ss)[i]?.getD 0 = ss[i]?.getD 0 ^^^ gm c (us[i]?.getD 0) := by
  unfold addL addTo
  rw [List.getElem?_mapIdx]
  simp [h]
theorem lead_scale {c : UInt8} (hc : c ≠ 0) (us : List UInt8) : leadI (scaleL c us) = leadI us := by
  unfold leadI scaleL
  rw [List.findIdx?_map]
  have e : ((fun x : UInt8 => x != 0) ∘ gm c) = (fun x => x != 0) := by
    funext x
    rw [Bool.eq_iff_iff]
    simp only [Function.comp, bne_iff_ne, ne_eq]
    constructor
    · intro h hx; rw [hx, gm_zero_right] at h; exact h rfl
    · intro h hx; rcases gm_eq_zero hx with h1 | h1; exact hc h1; exact h h1
  rw [e]
theorem norm_len (r : List UInt8 × List UInt8) : (normR r).1.length = r.1.length ∧ (normR r).2.length = r.2.length := by
  unfold normR
  split
  · exact ⟨rfl, rfl⟩
  · exact ⟨scaleL_length _ _, scaleL_length _ _⟩
theorem norm_lead (r : List UInt8 × List UInt8) : leadI (normR r).1 = leadI r.1 := by
  by_cases h : leadI r.1 < 0
  · unfold normR; rw [if_pos h]
  · unfold normR; rw [if_neg h]
    exact lead_scale (ginv_ne (at_lead h)) r.1
theorem norm_at {r : List UInt8 × List UInt8} (h : ¬ leadI r.1 < 0) : atB (normR r).1 (leadI r.1) = 1 := by
  have hb := lead_bounds r.1
  have hl := (norm_len r).1
  have ha := at_lead h
  unfold normR
  rw [if_neg h]
  unfold atB at ha ⊢
  rw [if_pos (by omega)] at ha
  rw [if_pos (by rw [scaleL_length]; omega), if_pos (by omega)]
  rw [scaleL_at, gm_comm, gm_ginv ha]
end Go.Proofs.Ytaidbcppecoenaa

