import Derived.Test.YthfbgcjfnpajjaaWords2
/- Numbers of 64 bits: what a state of a generator gives, as plain numbers. Of no program. -/
namespace Go.Proofs.Ythfbgcjfnpajjaa
open Go.RowKit
set_option linter.unusedVariables false
set_option maxRecDepth 100000

/-- A number of 64 bits. (Behind a name, so that the walk leaves it as it stands.) -/
def uv (n : Nat) : Int := (n : Int)
theorem uv_nn (n : Nat) : 0 ≤ uv n := by unfold uv; omega
theorem uv_le {n : Nat} (h : n < 18446744073709551616) : uv n ≤ 18446744073709551615 := by unfold uv; omega
theorem uv_beq (m n : Nat) : (uv m == uv n) = (m == n) := by
  rw [Bool.eq_iff_iff]; simp [uv]; omega
/-- What is combined with itself, so many bits to the right. -/
def xs (k z : Nat) : Nat := z ^^^ (z / 2 ^ k)
theorem xs_lt (k : Nat) {z : Nat} (h : z < 18446744073709551616) : xs k z < 18446744073709551616 :=
  Nat.xor_lt_two_pow (n := 64) h (Nat.lt_of_le_of_lt (Nat.div_le_self _ _) h)
def m1 (z : Nat) : Nat := z * 13787848793156543929 % 18446744073709551616
def m2 (z : Nat) : Nat := z * 10723151780598845931 % 18446744073709551616
theorem m1_lt (z : Nat) : m1 z < 18446744073709551616 := Nat.mod_lt _ (by decide)
theorem m2_lt (z : Nat) : m2 z < 18446744073709551616 := Nat.mod_lt _ (by decide)
/-- The number of a state. -/
def stir (z : Nat) : Nat := xs 31 (m2 (xs 27 (m1 (xs 30 z))))
theorem stir_lt {z : Nat} (h : z < 18446744073709551616) : stir z < 18446744073709551616 := xs_lt _ (m2_lt _)
/-- The state behind k numbers. -/
def st (s k : Nat) : Nat := (s + k * 11400714819323198485) % 18446744073709551616
theorem st_lt (s k : Nat) : st s k < 18446744073709551616 := Nat.mod_lt _ (by decide)
theorem st_zero {s : Nat} (h : s < 18446744073709551616) : st s 0 = s := by unfold st; omega
theorem st_st (s j k : Nat) : st (st s j) k = st s (j + k) := by unfold st; omega
/-- The byte at place i of what comes of a state. -/
def bt (s i : Nat) : UInt8 := UInt8.ofNat (stir (st s (i / 8 + 1)) / 256 ^ (i % 8))
def mixL (s n : Nat) : List UInt8 := (List.range n).map (bt s)
theorem mixL_length (s n : Nat) : (mixL s n).length = n := by simp [mixL]
theorem mixL_succ (s n : Nat) : mixL s (n + 1) = mixL s n ++ [bt s n] := by simp [mixL, List.range_succ]
theorem mixL_get {s n i : Nat} (h : i < n) : (mixL s n)[i]? = some (bt s i) := by simp [mixL, List.getElem?_range h]
theorem mixL_part (s n i : Nat) (h : 8 * i + 8 ≤ n) : ((mixL s n).drop (8 * i)).take 8 = mixL (st s i) 8 := by
  apply List.ext_getElem?
  intro j
  by_cases hj : j < 8
  · rw [List.getElem?_take, if_pos hj, List.getElem?_drop]
    have h1 : (mixL s n)[8 * i + j]? = some (bt s (8 * i + j)) := mixL_get (by omega)
    have h2 : (mixL (st s i) 8)[j]? = some (bt (st s i) j) := mixL_get hj
    rw [h1, h2]
    unfold bt
    rw [st_st, show (8 * i + j) / 8 = i by omega, show (8 * i + j) % 8 = j by omega, show j / 8 = 0 by omega, show j % 8 = j by omega]
  · rw [List.getElem?_eq_none (by simp; omega), List.getElem?_eq_none (by simp [mixL]; omega)]
/-! ### No two states have one number -/
theorem xor_cancel {a b c d : Nat} (h : a ^^^ c = b ^^^ d) : a ^^^ b = c ^^^ d := by
  have h1 : (a ^^^ c) ^^^ (b ^^^ c) = (b ^^^ d) ^^^ (b ^^^ c) := by rw [h]
  have e1 : (a ^^^ c) ^^^ (b ^^^ c) = a ^^^ b := by
    rw [Nat.xor_assoc, Nat.xor_comm c, Nat.xor_assoc b, Nat.xor_self, Nat.xor_zero]
  have e2 : (b ^^^ d) ^^^ (b ^^^ c) = c ^^^ d := by
    rw [Nat.xor_comm b d, Nat.xor_assoc, ← Nat.xor_assoc b, Nat.xor_self, Nat.zero_xor, Nat.xor_comm]
  rw [e1, e2] at h1
  exact h1
theorem xs_inj {k : Nat} (hk : 0 < k) {y z : Nat} (h : xs k y = xs k z) : y = z := by
  unfold xs at h
  have h1 := xor_cancel h
  rw [← Nat.shiftRight_eq_div_pow, ← Nat.shiftRight_eq_div_pow, ← Nat.shiftRight_xor_distrib, Nat.shiftRight_eq_div_pow] at h1
  generalize hd : y ^^^ z = d at h1
  have h2 : d = 0 := by
    refine Nat.eq_zero_of_not_pos fun hp => ?_
    have := Nat.div_lt_self hp (show 1 < 2 ^ k from Nat.one_lt_two_pow (by omega))
    omega
  rw [h2] at hd
  have h3 : y ^^^ z ^^^ z = z := by rw [hd, Nat.zero_xor]
  rwa [Nat.xor_assoc, Nat.xor_self, Nat.xor_zero] at h3
theorem mul_inj {M I y z : Nat} (hI : M * I % 18446744073709551616 = 1) (hy : y < 18446744073709551616) (hz : z < 18446744073709551616) (h : y * M % 18446744073709551616 = z * M % 18446744073709551616) : y = z := by
  have e : ∀ x, x < 18446744073709551616 → x * M % 18446744073709551616 * I % 18446744073709551616 = x := fun x hx => by
    rw [Nat.mod_mul_mod, Nat.mul_assoc, Nat.mul_mod, hI, Nat.mul_one, Nat.mod_mod, Nat.mod_eq_of_lt hx]
  rw [← e y hy, h, e z hz]
theorem m1_inj {y z : Nat} (hy : y < 18446744073709551616) (hz : z < 18446744073709551616) (h : m1 y = m1 z) : y = z := mul_inj (I := 10871156337175269513) (by decide) hy hz h
theorem m2_inj {y z : Nat} (hy : y < 18446744073709551616) (hz : z < 18446744073709551616) (h : m2 y = m2 z) : y = z := mul_inj (I := 3573116690164977347) (by decide) hy hz h
theorem stir_inj {y z : Nat} (hy : y < 18446744073709551616) (hz : z < 18446744073709551616) (h : stir y = stir z) : y = z := by
  unfold stir at h
  have h1 := xs_inj (by omega) h
  have h2 := m2_inj (xs_lt _ (m1_lt _)) (xs_lt _ (m1_lt _)) h1
  have h3 := xs_inj (by omega) h2
  have h4 := m1_inj (xs_lt _ hy) (xs_lt _ hz) h3
  exact xs_inj (by omega) h4
theorem st_inj {y z : Nat} (hy : y < 18446744073709551616) (hz : z < 18446744073709551616) (h : st y 1 = st z 1) : y = z := by unfold st at h; omega
/-! ### As the walk spells it -/
theorem bits_xs (k : Nat) {z : Nat} (h : z < 18446744073709551616) : bits .xor .u64 (uv z) (uv z / 2 ^ k) = uv (xs k z) := by
  have e : uv z / 2 ^ k = uv (z / 2 ^ k) := by simp [uv]
  rw [e]
  exact u64_xor_nat z (z / 2 ^ k) h (Nat.lt_of_le_of_lt (Nat.div_le_self _ _) h)
theorem wrap_m1 (z : Nat) : IntKind.u64.wrap (uv z * 13787848793156543929) = uv (m1 z) := by
  rw [IntKind.wrap_u64]; unfold uv m1; omega
theorem wrap_m2 (z : Nat) : IntKind.u64.wrap (uv z * 10723151780598845931) = uv (m2 z) := by
  rw [IntKind.wrap_u64]; unfold uv m2; omega
theorem wrap_st (s : Nat) : IntKind.u64.wrap (uv s + 11400714819323198485) = uv (st s 1) := by
  rw [IntKind.wrap_u64]; unfold uv st; omega
theorem uv_byte (s i x : Nat) (h : x = stir (st s (i / 8 + 1)) / 256 ^ (i % 8)) : uv x % 256 = bv (bt s i) := by
  unfold bt bv uv
  rw [UInt8.toNat_ofNat', ← h]
  omega
theorem set_front (L : List UInt8) (m : Nat) (u : UInt8) (hm : 0 < m) {k : Nat} (hk : L.length = k) : (L ++ nulls m).set k u = (L ++ [u]) ++ nulls (m - 1) := by
  subst hk
  rw [List.set_append_right _ _ (Nat.le_refl _), Nat.sub_self]
  obtain ⟨j, rfl⟩ : ∃ j, m = j + 1 := ⟨m - 1, by omega⟩
  simp [nulls, List.replicate_succ]
end Go.Proofs.Ythfbgcjfnpajjaa
