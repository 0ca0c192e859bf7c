import Derived.Test.YthfbgcjfnpajjaaDoorNatC
import Derived.Shelf.Spec.BitsCarry
/- nat.Sub. -/
namespace Go.Proofs.YthfbgcjfnpajjaaDoor
open Go.RowKit
set_option linter.unusedVariables false
set_option maxRecDepth 100000

def subD (x y r : Nat) : Nat := (x + W64 - y - r) % W64
def subB (x y r : Nat) : Nat := if x < y + r then 1 else 0
theorem sub_law {x y r : Nat} (hx : x < W64) (hy : y < W64) (hr : r ≤ 1) : subD x y r < W64 ∧ subB x y r ≤ 1 ∧ subD x y r + y + r = x + subB x y r * W64 := by
  unfold subD subB
  have hp := W64_pos
  by_cases h : x < y + r
  · rw [if_pos h, Nat.mod_eq_of_lt (by omega)]; omega
  · rw [if_neg h, show x + W64 - y - r = (x - y - r) + W64 by omega, Nat.add_mod_right, Nat.mod_eq_of_lt (by omega)]; omega
/-- So far the words of a difference, and what is borrowed. -/
def SubTo (a b : List Nat) (i : Nat) (L : List Nat) (r : Nat) : Prop := L.length = i ∧ Below' W64 L ∧ r ≤ 1 ∧ num W64 L + num W64 (b.take i) = num W64 (a.take i) + r * W64 ^ i
theorem SubTo.start (a b : List Nat) : SubTo a b 0 [] 0 := ⟨rfl, (fun x hx => absurd hx (by simp)), by omega, by simp [num_nil]⟩
theorem SubTo.next {a b L : List Nat} {i r : Nat} (h : SubTo a b i L r) (ha : Below' W64 a) (hb : Below' W64 b) : SubTo a b (i + 1) (L ++ [subD (dg a i) (dg b i) r]) (subB (dg a i) (dg b i) r) := by
  obtain ⟨h1, h2, h3, h4⟩ := h
  obtain ⟨l1, l2, l3⟩ := sub_law (dg_lt W64_pos ha i) (dg_lt W64_pos hb i) h3
  refine ⟨by simp [h1], below_snoc h2 l1, l2, ?_⟩
  rw [num_snoc, num_take, num_take, h1, Nat.pow_succ]
  have e := congrArg (· * W64 ^ i) l3
  simp only [Nat.add_mul] at e
  rw [Nat.mul_assoc, Nat.mul_comm W64] at e
  omega
theorem SubTo.done {a b L : List Nat} {n r : Nat} (h : SubTo a b n L r) (ha : a.length = n) (hb : b.length ≤ n) (hle : num W64 b ≤ num W64 a) : num W64 L = num W64 a - num W64 b := by
  obtain ⟨h1, h2, h3, h4⟩ := h
  rw [num_all W64 (by omega), num_all W64 (by omega)] at h4
  have h5 := num_lt h2
  rw [h1] at h5
  have h6 : r = 0 ∨ r = 1 := by omega
  rcases h6 with rfl | rfl <;> omega
theorem blk_size {w w' : World} {g : Nat} {t : TypeId} {cs : Array Value} (h : Blk w g t cs) (hb : Below w.heap.size w w') : Blk w' g t cs := h.below hb h.lt
end Go.Proofs.YthfbgcjfnpajjaaDoor
