import Derived.Test.YtaidbcppecoenaaVecB
import Derived.Test.YtaidbcppecoenaaLin
/- Rows, normed and taken away: plain facts on lists of bytes. -/
namespace Go.Proofs.Ytaidbcppecoenaa
set_option linter.unusedVariables false

theorem addL_at (c : UInt8) (us ss : List UInt8) {i : Nat} (h : i < ss.length) : (addL c us ss)[i]?.getD 0 = ss[i]?.getD 0 ^^^ gm c (us[i]?.getD 0) := by
  unfold addL addTo
  rw [List.getElem?_mapIdx]
  simp [h]
theorem lead_scale {c : UInt8} (hc : c ≠ 0) (us : List UInt8) : leadI (scaleL c us) = leadI us := by
  unfold leadI scaleL
  rw [List.findIdx?_map]
  have e : ((fun x : UInt8 => x != 0) ∘ gm c) = (fun x => x != 0) := by
    funext x
    rw [Bool.eq_iff_iff]
    simp only [Function.comp, bne_iff_ne, ne_eq]
    constructor
    · intro h hx; rw [hx, gm_zero_right] at h; exact h rfl
    · intro h hx; rcases gm_eq_zero hx with h1 | h1; exact hc h1; exact h h1
  rw [e]
theorem norm_len (r : List UInt8 × List UInt8) : (normR r).1.length = r.1.length ∧ (normR r).2.length = r.2.length := by
  unfold normR
  split
  · exact ⟨rfl, rfl⟩
  · exact ⟨scaleL_length _ _, scaleL_length _ _⟩
theorem norm_lead (r : List UInt8 × List UInt8) : leadI (normR r).1 = leadI r.1 := by
  by_cases h : leadI r.1 < 0
  · unfold normR; rw [if_pos h]
  · unfold normR; rw [if_neg h]
    exact lead_scale (ginv_ne (at_lead h)) r.1
theorem norm_at {r : List UInt8 × List UInt8} (h : ¬ leadI r.1 < 0) : atB (normR r).1 (leadI r.1) = 1 := by
  have hb := lead_bounds r.1
  have hl := (norm_len r).1
  have ha := at_lead h
  unfold normR
  rw [if_neg h]
  unfold atB at ha ⊢
  rw [if_pos (by omega)] at ha
  rw [if_pos (by rw [scaleL_length]; omega), if_pos (by omega)]
  rw [scaleL_at, gm_comm, gm_ginv ha]
/-- Where both lead at i: nothing is left there, nor ahead of it. -/
theorem less_zero {us vs : List UInt8} {i : Nat} (hl : us.length = vs.length) (h1 : leadI us = (i : Int)) (h2 : leadI vs = (i : Int)) (h3 : us[i]?.getD 0 = 1) (k : Nat) (hk : k ≤ i) :
    (addL (vs[i]?.getD 0) us vs)[k]?.getD 0 = 0 := by
  have hb := lead_bounds us
  rw [addL_at _ _ _ (by omega)]
  by_cases he : k = i
  · subst he
    rw [h3, gm_one_right, UInt8.xor_self]
  · have z : ∀ ws : List UInt8, leadI ws = (i : Int) → ws[k]?.getD 0 = 0 := by
      intro ws hw
      unfold leadI at hw
      cases hf : ws.findIdx? (· != 0) with
      | none => rw [hf] at hw; simp only at hw; omega
      | some j =>
        rw [hf] at hw
        simp only [Int.ofNat_inj] at hw
        subst hw
        obtain ⟨h4, _, h5⟩ := List.findIdx?_eq_some_iff_getElem.1 hf
        have := h5 k (by omega)
        simp only [bne_iff_ne, ne_eq, Decidable.not_not] at this
        rw [List.getElem?_eq_getElem (by omega), Option.getD_some]
        exact this
    rw [z us h1, z vs h2, gm_zero_right]
    rfl
theorem less_lead {us vs : List UInt8} {i : Nat} (hl : us.length = vs.length) (h1 : leadI us = (i : Int)) (h2 : leadI vs = (i : Int)) (h3 : us[i]?.getD 0 = 1) :
    (i : Int) < leadI (addL (vs[i]?.getD 0) us vs) ∨ leadI (addL (vs[i]?.getD 0) us vs) = -1 := by
  have hz := less_zero hl h1 h2 h3
  have hb := lead_bounds (addL (vs[i]?.getD 0) us vs)
  by_cases hn : 0 ≤ leadI (addL (vs[i]?.getD 0) us vs)
  · left
    have hg := lead_get hn
    refine Int.not_le.1 fun hle => hg ?_
    exact hz _ (by omega)
  · right; omega
end Go.Proofs.Ytaidbcppecoenaa

