import Derived.Test.YtheohcebiimdoaaWords
/- A plan's numbers: how many symbols a length needs. -/
namespace Go.Proofs.Ytheohcebiimdoaa
open Go.RowKit
set_option linter.unusedVariables false
set_option maxRecDepth 100000

/-- A plan as a value. -/
def pv (l s k d : Int) : Value := .agg #[.int .i64 l, .int .i64 s, .int .i64 k, .int .u32 d]
/-- How many symbols of s bytes a length needs. -/
def needsN (l s : Int) : Int := (if l ≤ 1 then 0 else l - 1) / s + 1
theorem needs_small {l s : Int} (h : l ≤ 1) : needsN l s = 1 := by simp [needsN, h]
theorem needs_pos {l s : Int} (hs : 1 ≤ s) : 1 ≤ needsN l s := by
  have := Int.ediv_nonneg (a := if l ≤ 1 then 0 else l - 1) (b := s) (by split <;> omega) (by omega)
  unfold needsN; omega
theorem needs_one {l s : Int} (hs : 1 ≤ s) (h : l ≤ s) : needsN l s = 1 := by
  unfold needsN
  split
  · simp
  · rw [Int.ediv_eq_zero_of_lt (by omega) (by omega)]; rfl
theorem needs_more {l s : Int} (hs : 1 ≤ s) (h : s < l) : needsN l s = needsN (l - s) s + 1 := by
  unfold needsN
  rw [if_neg (by omega)]
  have e : l - 1 = (l - s - 1) + 1 * s := by omega
  rw [e, Int.add_mul_ediv_right _ _ (by omega)]
  by_cases h1 : l - s ≤ 1
  · rw [if_pos h1, show l - s - 1 = 0 by omega]
  · rw [if_neg h1]
theorem needs_room {l s : Int} (hs : 1 ≤ s) : l ≤ needsN l s * s := by
  unfold needsN
  by_cases h : l ≤ 1
  · rw [if_pos h]; simp; omega
  · rw [if_neg h]
    have h1 := Int.emod_add_mul_ediv (l - 1) s
    have h2 := Int.emod_lt_of_pos (l - 1) (b := s) (by omega)
    rw [Int.add_mul, Int.mul_comm ((l - 1) / s) s]
    omega
theorem needs_tight {l s : Int} (hs : 1 ≤ s) (hl : 1 ≤ l) : (needsN l s - 1) * s < l := by
  unfold needsN
  by_cases h : l ≤ 1
  · rw [if_pos h]; simp; omega
  · rw [if_neg h]
    have h1 := Int.emod_add_mul_ediv (l - 1) s
    have h2 := Int.emod_nonneg (l - 1) (b := s) (by omega)
    rw [show (l - 1) / s + 1 - 1 = (l - 1) / s by omega, Int.mul_comm]
    omega
/-- What a plan's length and size come to, and a plan. -/
def boundsC (l s : Int) : Int := if l < 0 then 2 else if s < 1 ∨ 65535 < s then 4 else if 4096 < needsN l s then 5 else 0
def codeC (l s k : Int) : Int := if boundsC l s ≠ 0 then boundsC l s else if k = needsN l s then 0 else 14
theorem bounds_ok {l s : Int} (h : boundsC l s = 0) : 0 ≤ l ∧ 1 ≤ s ∧ s ≤ 65535 ∧ needsN l s ≤ 4096 ∧ 1 ≤ needsN l s := by
  unfold boundsC at h
  split at h
  · omega
  · split at h
    · omega
    · split at h
      · omega
      · rename_i h1 h2 h3
        exact ⟨by omega, by omega, by omega, by omega, needs_pos (by omega)⟩
theorem code_ok {l s k : Int} (h : codeC l s k = 0) : boundsC l s = 0 ∧ k = needsN l s := by
  unfold codeC at h
  split at h
  · contradiction
  · split at h
    · rename_i h1 h2; exact ⟨by omega, h2⟩
    · omega
theorem code_bounds {l s : Int} (h : boundsC l s ≠ 0) (k : Int) : codeC l s k = boundsC l s := by simp [codeC, h]
/-- A plan that may be, in whole numbers. -/
theorem plan_nat {l s k : Int} (h : codeC l s k = 0) : ∃ L S K : Nat, l = L ∧ s = S ∧ k = K ∧ 1 ≤ S ∧ S ≤ 65535 ∧ 1 ≤ K ∧ K ≤ 4096 ∧ L ≤ K * S ∧ (1 ≤ L → (K - 1) * S < L) ∧ (L = 0 → K = 1) := by
  obtain ⟨h1, rfl⟩ := code_ok h
  obtain ⟨a, b, c, d, e⟩ := bounds_ok h1
  have r := needs_room (l := l) b
  have t := fun hl => needs_tight (l := l) b hl
  have z : l = 0 → needsN l s = 1 := fun h => needs_small (by omega)
  generalize needsN l s = k at *
  refine ⟨l.toNat, s.toNat, k.toNat, by omega, by omega, by omega, by omega, by omega, by omega, by omega, ?_, fun hl => ?_, fun hl => ?_⟩
  · have e1 : l = (l.toNat : Int) := by omega
    have e2 : s = (s.toNat : Int) := by omega
    have e3 : k = (k.toNat : Int) := by omega
    rw [e1, e2, e3] at r
    exact_mod_cast r
  · have t := t (by omega)
    have e1 : l = (l.toNat : Int) := by omega
    have e2 : s = (s.toNat : Int) := by omega
    have e3 : k - 1 = ((k.toNat - 1 : Nat) : Int) := by omega
    rw [e3, e2, e1] at t
    exact_mod_cast t
  · have := z (by omega); omega
/-- As many as the document tells: at most 4097. -/
def needs97 (l s : Int) : Int := if needsN l s ≤ 4097 then needsN l s else 4097
theorem needs97_gt {l s : Int} : 4096 < needs97 l s ↔ 4096 < needsN l s := by unfold needs97; split <;> omega
theorem needs97_eq {l s : Int} (h : needsN l s ≤ 4096) : needs97 l s = needsN l s := by unfold needs97; rw [if_pos (by omega)]
end Go.Proofs.Ytheohcebiimdoaa
