import Derived.Test.YthfbgcjfnpajjaaDoorNat
import Derived.Laws.Externs
import Derived.Deep.DeepCutAuto
import Derived.Deep.CutRange
/- nat.plus, nat.times, nat.Sub's words. -/
namespace Go.Proofs.YthfbgcjfnpajjaaDoor
open Go.RowKit
set_option linter.unusedVariables false
set_option maxRecDepth 100000

/-! ### bits.Add64, as the walk meets it -/
theorem run_add (x y c : Nat) (hc : c ≤ 1) (w : World) : (callFunc 47 #[.int .u64 (uv x), .int .u64 (uv y), .int .u64 (uv c)]).run Tryd.prog w =
    .ok (.value (.tuple #[.int .u64 (uv ((x + y + c) % W64)), .int .u64 (uv ((x + y + c) / W64))])) w := by
  rw [run_callFunc_extern Tryd.func47 (by kernel_rfl) (by kernel_rfl) (by kernel_rfl) (e := add64Entry) (by kernel_rfl)]
  unfold uv
  rw [run_add64 x y c (by omega) (by omega) (by omega) (by omega)]
  simp only [Result.andThen, W64]
  congr 5 <;> omega
/-- So far the words of a sum, and what is carried. -/
def SumTo (a b : List Nat) (i : Nat) (L : List Nat) (c : Nat) : Prop := L.length = i ∧ Below' W64 L ∧ c ≤ 1 ∧ num W64 L + c * W64 ^ i = num W64 (a.take i) + num W64 (b.take i)
theorem SumTo.start (a b : List Nat) : SumTo a b 0 [] 0 := ⟨rfl, (fun x hx => absurd hx (by simp)), by omega, by simp [num_nil]⟩
theorem carry_step (x y c β P : Nat) : (x + y + c) % β * P + (x + y + c) / β * (P * β) = x * P + y * P + c * P := by
  have h := Nat.mod_add_div (x + y + c) β
  rw [Nat.mul_comm P β, ← Nat.mul_assoc, ← Nat.add_mul, Nat.mul_comm _ β, h, Nat.add_mul, Nat.add_mul]
theorem SumTo.next {a b L : List Nat} {i c : Nat} (h : SumTo a b i L c) (ha : Below' W64 a) (hb : Below' W64 b) : SumTo a b (i + 1) (L ++ [(dg a i + dg b i + c) % W64]) ((dg a i + dg b i + c) / W64) := by
  obtain ⟨h1, h2, h3, h4⟩ := h
  have hx := dg_lt W64_pos ha i
  have hy := dg_lt W64_pos hb i
  refine ⟨by simp [h1], below_snoc h2 (Nat.mod_lt _ W64_pos), ?_, ?_⟩
  · have : (dg a i + dg b i + c) < W64 * 2 := by omega
    have := Nat.div_lt_of_lt_mul this
    omega
  · rw [num_snoc, num_take, num_take, h1, Nat.pow_succ]
    have := carry_step (dg a i) (dg b i) c W64 (W64 ^ i)
    omega
end Go.Proofs.YthfbgcjfnpajjaaDoor
