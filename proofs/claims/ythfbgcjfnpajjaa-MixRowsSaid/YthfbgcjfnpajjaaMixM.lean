import Derived.Test.YthfbgcjfnpajjaaWords2
/- Numbers of 64 bits: what a state of a generator gives, as plain numbers. Of no program. -/
namespace Go.Proofs.Ythfbgcjfnpajjaa
open Go.RowKit
set_option linter.unusedVariables false
set_option maxRecDepth 100000

/-- A number of 64 bits. (Behind a name, so that the walk leaves it as it stands.) -/
def uv (n : Nat) : Int := (n : Int)
theorem uv_nn (n : Nat) : 0 ≤ uv n := by unfold uv; omega
theorem uv_le {n : Nat} (h : n < 18446744073709551616) : uv n ≤ 18446744073709551615 := by unfold uv; omega
/-- What is combined with itself, so many bits to the right. -/
def xs (k z : Nat) : Nat := z ^^^ (z / 2 ^ k)
theorem xs_lt (k : Nat) {z : Nat} (h : z < 18446744073709551616) : xs k z < 18446744073709551616 :=
  Nat.xor_lt_two_pow (n := 64) h (Nat.lt_of_le_of_lt (Nat.div_le_self _ _) h)
def m1 (z : Nat) : Nat := z * 13787848793156543929 % 18446744073709551616
def m2 (z : Nat) : Nat := z * 10723151780598845931 % 18446744073709551616
theorem m1_lt (z : Nat) : m1 z < 18446744073709551616 := Nat.mod_lt _ (by decide)
theorem m2_lt (z : Nat) : m2 z < 18446744073709551616 := Nat.mod_lt _ (by decide)
/-- The number of a state. -/
def stir (z : Nat) : Nat := xs 31 (m2 (xs 27 (m1 (xs 30 z))))
theorem stir_lt {z : Nat} (h : z < 18446744073709551616) : stir z < 18446744073709551616 := xs_lt _ (m2_lt _)
/-- The state behind k numbers. -/
def st (s k : Nat) : Nat := (s + k * 11400714819323198485) % 18446744073709551616
theorem st_lt (s k : Nat) : st s k < 18446744073709551616 := Nat.mod_lt _ (by decide)
theorem st_zero {s : Nat} (h : s < 18446744073709551616) : st s 0 = s := by unfold st; omega
theorem st_st (s j k : Nat) : st (st s j) k = st s (j + k) := by unfold st; omega
/-- The byte at place i of what comes of a state. -/
def bt (s i : Nat) : UInt8 := UInt8.ofNat (stir (st s (i / 8 + 1)) / 256 ^ (i % 8))
def mixL (s n : Nat) : List UInt8 := (List.range n).map (bt s)
theorem mixL_length (s n : Nat) : (mixL s n).length = n := by simp [mixL]
theorem mixL_succ (s n : Nat) : mixL s (n + 1) = mixL s n ++ [bt s n] := by simp [mixL, List.range_succ]
/-! ### No two states have one number -/
/-! ### As the walk spells it -/
theorem bits_xs (k : Nat) {z : Nat} (h : z < 18446744073709551616) : bits .xor .u64 (uv z) (uv z / 2 ^ k) = uv (xs k z) := by
  have e : uv z / 2 ^ k = uv (z / 2 ^ k) := by simp [uv]
  rw [e]
  exact u64_xor_nat z (z / 2 ^ k) h (Nat.lt_of_le_of_lt (Nat.div_le_self _ _) h)
theorem wrap_m1 (z : Nat) : IntKind.u64.wrap (uv z * 13787848793156543929) = uv (m1 z) := by
  rw [IntKind.wrap_u64]; unfold uv m1; omega
theorem wrap_m2 (z : Nat) : IntKind.u64.wrap (uv z * 10723151780598845931) = uv (m2 z) := by
  rw [IntKind.wrap_u64]; unfold uv m2; omega
theorem wrap_st (s : Nat) : IntKind.u64.wrap (uv s + 11400714819323198485) = uv (st s 1) := by
  rw [IntKind.wrap_u64]; unfold uv st; omega
theorem uv_byte (s i x : Nat) (h : x = stir (st s (i / 8 + 1)) / 256 ^ (i % 8)) : uv x % 256 = bv (bt s i) := by
  unfold bt bv uv
  rw [UInt8.toNat_ofNat', ← h]
  omega
theorem set_front (L : List UInt8) (m : Nat) (u : UInt8) (hm : 0 < m) {k : Nat} (hk : L.length = k) : (L ++ nulls m).set k u = (L ++ [u]) ++ nulls (m - 1) := by
  subst hk
  rw [List.set_append_right _ _ (Nat.le_refl _), Nat.sub_self]
  obtain ⟨j, rfl⟩ : ∃ j, m = j + 1 := ⟨m - 1, by omega⟩
  simp [nulls, List.replicate_succ]
end Go.Proofs.Ythfbgcjfnpajjaa
