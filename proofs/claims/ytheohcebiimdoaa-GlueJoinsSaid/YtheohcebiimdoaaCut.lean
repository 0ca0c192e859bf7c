import Derived.Test.YtheohcebiimdoaaPlan
/- Contracts of package cut: an object in symbols. -/
namespace Go.Proofs.Ytheohcebiimdoaa
open Go.RowKit
set_option linter.unusedVariables false
set_option maxRecDepth 100000

/-! ### Symbols -/
theorem cutTo_get (n : Nat) (us : List UInt8) (i : Nat) : (cutTo n us)[i]? = if i < n then some (us[i]?.getD 0) else none := by
  unfold cutTo nulls
  by_cases h : i < n
  · rw [if_pos h]
    by_cases h2 : i < us.length
    · rw [List.getElem?_append_left (by rw [List.length_take]; omega), List.getElem?_take, if_pos h]
      simp [h2]
    · rw [List.getElem?_append_right (by rw [List.length_take]; omega), List.length_take, List.getElem?_replicate, if_pos (by omega)]
      simp [h2]
  · rw [if_neg h]
    exact List.getElem?_eq_none (by rw [List.length_append, List.length_take, List.length_replicate]; omega)
/-- The symbol of a number. -/
def symL (S : Nat) (us : List UInt8) (i : Nat) : List UInt8 := cutTo S (us.drop (i * S))
/-- All symbols. -/
def symsL (S K : Nat) (us : List UInt8) : List (List UInt8) := (List.range K).map (symL S us)
/-! ### fits -/
/-! ### stretch -/
/-! ### Cut -/
def RoomSl (v : Value) : Prop := ∃ A m c, v = .slice A m c ∧ m ≤ c ∧ c ≤ 9223372036854775807
/-- Block g holds n slices, none of which is longer than its room. -/
def Roomy (w : World) (g n : Nat) : Prop := ∃ cs : List Value, cs.length = n ∧ Blk w g 25 cs.toArray ∧ ∀ v ∈ cs, RoomSl v
theorem Roomy.lt {w : World} {g n : Nat} (h : Roomy w g n) : g < w.heap.size := by obtain ⟨cs, _, h2, _⟩ := h; exact h2.lt
theorem Roomy.step {w w' : World} {g n : Nat} (h : Roomy w g n) (hb : Below w.heap.size w w') : Roomy w' g n := by
  obtain ⟨cs, h1, h2, h3⟩ := h
  exact ⟨cs, h1, h2.below hb h2.lt, h3⟩
theorem Roomy.new (w : World) (n : Nat) : Roomy (w.alloc (.cells (nils n).toArray 25)) w.heap.size n := by
  refine ⟨nils n, by simp [nils], Blk.new _ _ _, fun v hv => ?_⟩
  simp only [nils, List.mem_replicate] at hv
  exact ⟨_, _, _, hv.2, Nat.le_refl _, by omega⟩
theorem Roomy.put {w : World} {g n k m c : Nat} {A : Option Addr} (h : Roomy w g n) (hm : m ≤ c) (hc : c ≤ 9223372036854775807) : Roomy (w.setCell ⟨g, k, none⟩ (.slice A m c)) g n := by
  obtain ⟨cs, h1, h2, h3⟩ := h
  refine ⟨cs.set k (.slice A m c), by simpa using h1, by simpa using h2.set k (.slice A m c), fun v hv => ?_⟩
  rcases List.mem_or_eq_of_mem_set hv with hv | rfl
  · exact h3 v hv
  · exact ⟨_, _, _, rfl, hm, hc⟩
theorem below_plan {L S K i : Nat} (h1 : 1 ≤ L → (K - 1) * S < L) (h0 : L = 0 → K = 1) (hi : i < K) : i * S ≤ L := by
  by_cases hl : 1 ≤ L
  · have := h1 hl
    have := Nat.mul_le_mul_right S (show i ≤ K - 1 by omega)
    omega
  · have := h0 (by omega)
    obtain rfl : i = 0 := by omega
    omega
end Go.Proofs.Ytheohcebiimdoaa
