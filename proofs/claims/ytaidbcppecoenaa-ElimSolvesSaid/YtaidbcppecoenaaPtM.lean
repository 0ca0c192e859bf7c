import Derived.Test.YtaidbcppecoenaaMat
import Derived.Test.YtaidbcppecoenaaVecM
/- Rows as points of a space. -/
namespace Go.Proofs.Ytaidbcppecoenaa
set_option linter.unusedVariables false
open Pt (less)

def fn (us : List UInt8) : V := fun i => us[i]?.getD 0
def pt (r : List UInt8 × List UInt8) : Pt := ⟨fn r.1, fn r.2⟩
theorem fn_out {us : List UInt8} {i : Nat} (h : us.length ≤ i) : fn us i = 0 := by
  unfold fn; rw [List.getElem?_eq_none h]; rfl
theorem fn_inj {us vs : List UInt8} (hl : us.length = vs.length) (h : fn us = fn vs) : us = vs :=
  ext_comb (m := us.length) rfl hl.symm fun i _ => congrFun h i
theorem pt_inj {r s : List UInt8 × List UInt8} (h1 : r.1.length = s.1.length) (h2 : r.2.length = s.2.length) (h : pt r = pt s) : r = s := by
  obtain ⟨a, b⟩ := r
  obtain ⟨c, d⟩ := s
  simp only [pt, Pt.mk.injEq] at h
  have e1 : a = c := fn_inj h1 h.1
  have e2 : b = d := fn_inj h2 h.2
  rw [e1, e2]
theorem fn_addL {c : UInt8} {us ss : List UInt8} (h : us.length = ss.length) : fn (addL c us ss) = fun i => fn ss i ^^^ gm c (fn us i) := by
  funext i
  by_cases hi : i < ss.length
  · exact addL_at c us ss hi
  · rw [fn_out (by rw [addL_length]; omega), fn_out (by omega), fn_out (by omega), gm_zero_right]; rfl
theorem fn_scaleL (c : UInt8) (us : List UInt8) : fn (scaleL c us) = fun i => gm c (fn us i) := by
  funext i; exact scaleL_at c us i
theorem fn_nulls (n : Nat) : fn (nulls n) = fun _ => 0 := by
  funext i
  unfold fn nulls
  rw [List.getElem?_replicate]
  split <;> rfl
theorem pt_less {r o : List UInt8 × List UInt8} (x : UInt8) (h1 : o.1.length = r.1.length) (h2 : o.2.length = r.2.length) : pt (lessR r x o).1 = less (pt r) x (pt o) := by
  unfold lessR
  rw [if_pos ⟨h1, h2⟩]
  unfold pt less
  simp only [fn_addL h1, fn_addL h2]
theorem atB_fn (us : List UInt8) (i : Nat) : atB us (i : Int) = fn us i := by
  unfold atB
  by_cases h : i < us.length
  · rw [if_pos (by omega), Int.toNat_natCast]; rfl
  · rw [if_neg (by omega), fn_out (by omega)]
theorem pt_scale (c : UInt8) (r : List UInt8 × List UInt8) : pt (scaleL c r.1, scaleL c r.2) = scl c (pt r) := by
  unfold pt
  refine Pt.eqI (fun i => ?_) (fun i => ?_)
  · rw [scl_v]; simp only [fn_scaleL]
  · rw [scl_d]; simp only [fn_scaleL]
theorem lead_fn_ne {us : List UInt8} {i : Nat} (h : leadI us = (i : Int)) : fn us i ≠ 0 ∧ (∀ j, j < i → fn us j = 0) ∧ i < us.length := by
  have hb := lead_bounds us
  have hg := lead_get (us := us) (by omega)
  rw [h, Int.toNat_natCast] at hg
  refine ⟨hg, fun j hj => ?_, by omega⟩
  unfold leadI at h
  cases hf : us.findIdx? (· != 0) with
  | none => rw [hf] at h; simp only at h; omega
  | some k =>
    rw [hf] at h
    simp only [Int.ofNat_inj] at h
    subst h
    obtain ⟨h4, _, h5⟩ := List.findIdx?_eq_some_iff_getElem.1 hf
    have := h5 j (by omega)
    simp only [bne_iff_ne, ne_eq, Decidable.not_not] at this
    unfold fn
    rw [List.getElem?_eq_getElem (by omega), Option.getD_some]
    exact this
theorem lead_fn_none {us : List UInt8} (h : leadI us < 0) : ∀ i, fn us i = 0 := by
  intro i
  by_cases hi : i < us.length
  · have hz : zeroB us = true := by rw [lead_zero]; simp [h]
    unfold zeroB at hz
    have := List.all_eq_true.1 hz us[i] (List.getElem_mem hi)
    unfold fn
    rw [List.getElem?_eq_getElem hi]
    simpa using this
  · exact fn_out (by omega)
/-- What is left where nothing leads. -/
theorem lead_of_fn {us : List UInt8} {i : Nat} (h1 : fn us i ≠ 0) (h2 : ∀ j, j < i → fn us j = 0) : leadI us = (i : Int) := by
  have hb := lead_bounds us
  by_cases hn : leadI us < 0
  · exact absurd (lead_fn_none hn i) h1
  · obtain ⟨k, hk⟩ : ∃ k : Nat, leadI us = (k : Int) := ⟨(leadI us).toNat, by omega⟩
    obtain ⟨k1, k2, _⟩ := lead_fn_ne hk
    rw [hk]
    rcases Nat.lt_trichotomy i k with h | h | h
    · exact absurd (k2 i h) h1
    · rw [h]
    · exact absurd (h2 k h) k1
theorem pt_norm {r : List UInt8 × List UInt8} {i : Nat} (h : leadI r.1 = (i : Int)) : pt (normR r) = scl (ginv ((pt r).v i)) (pt r) := by
  unfold normR
  rw [if_neg (by omega), h, atB_fn, pt_scale]
  rfl
theorem normed {r : List UInt8 × List UInt8} {i : Nat} (h : leadI r.1 = (i : Int)) : leadI (normR r).1 = (i : Int) ∧ (normR r).1[i]?.getD 0 = 1 := by
  refine ⟨by rw [norm_lead, h], ?_⟩
  have h1 := norm_at (r := r) (by omega)
  rw [h, atB_fn] at h1
  exact h1
end Go.Proofs.Ytaidbcppecoenaa

