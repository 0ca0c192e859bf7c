import Derived.Test.YthfbgcjfnpajjaaDoorRefD
/- The document's own numbers: Sub, Mul. -/
namespace Go.Proofs.YthfbgcjfnpajjaaDoor
open Go.RowKit
set_option linter.unusedVariables false
set_option maxRecDepth 100000

/-! ### Sub -/
/-- So far the bytes of a difference, and what is borrowed. -/
def SubB (a b : List Nat) (i : Nat) (L : List UInt8) (q : Nat) : Prop := L.length = i ∧ q ≤ 1 ∧ leN L + num 256 (b.take i) = num 256 (a.take i) + q * 256 ^ i
theorem SubB.start (a b : List Nat) : SubB a b 0 [] 0 := ⟨rfl, by omega, by simp [leN, nb, num_nil]⟩
theorem SubB.next {a b : List Nat} {L : List UInt8} {i q d q' : Nat} (h : SubB a b i L q) (hd : d < 256) (hq : q' ≤ 1) (he : d + dg b i + q = dg a i + q' * 256) : SubB a b (i + 1) (L ++ [UInt8.ofNat d]) q' := by
  obtain ⟨h1, h3, h4⟩ := h
  refine ⟨by simp [h1], hq, ?_⟩
  unfold leN at *
  rw [nb_snoc, num_snoc, num_take, num_take, nb_length, h1, UInt8.toNat_ofNat_of_lt' hd, Nat.pow_succ]
  have e := congrArg (· * 256 ^ i) he
  simp only [Nat.add_mul] at e
  rw [Nat.mul_assoc, Nat.mul_comm 256] at e
  omega
theorem SubB.done {a b : List Nat} {L : List UInt8} {n q : Nat} (h : SubB a b n L q) (ha : Below' 256 a) (hn : a.length = n) (hle : num 256 b ≤ num 256 a) : leN L = num 256 a - num 256 b := by
  obtain ⟨h1, h3, h4⟩ := h
  have hb : num 256 (b.take n) = num 256 b := by
    by_cases hl : b.length ≤ n
    · exact num_all 256 hl
    · have e := num_append 256 (b.take n) (b.drop n)
      rw [List.take_append_drop, List.length_take, Nat.min_eq_left (by omega)] at e
      have h5 := num_lt ha
      rw [hn] at h5
      by_cases h0 : num 256 (b.drop n) = 0
      · rw [h0] at e; omega
      · have : 256 ^ n * 1 ≤ 256 ^ n * num 256 (b.drop n) := Nat.mul_le_mul_left _ (by omega)
        omega
  rw [hb, num_all 256 (by omega)] at h4
  have h5 : leN L < 256 ^ L.length := by have := num_lt (nb_lt L); rwa [nb_length] at this
  rw [h1] at h5
  have h6 : q = 0 ∨ q = 1 := by omega
  rcases h6 with rfl | rfl <;> omega
/-! ### Mul -/
theorem nb_set (us : List UInt8) (k : Nat) (u : UInt8) : nb (us.set k u) = (nb us).set k u.toNat := by simp [nb, List.map_set]
theorem nb_nulls (m : Nat) : nb (nulls m) = noughts m := by simp [nb, nulls, noughts]
/-- So far a product's bytes, behind i rows. -/
def MulR (a b : List Nat) (m i : Nat) (R : List UInt8) : Prop := R.length = m ∧ Null (nb R) (i + b.length) ∧ leN R = num 256 (a.take i) * num 256 b
/-- .. and in the row i, behind j places. -/
def MulB (a b : List Nat) (m i j : Nat) (R : List UInt8) (q : Nat) : Prop := R.length = m ∧ Null (nb R) (i + b.length + (j - b.length)) ∧ q < 256 ∧ j ≤ b.length + 1 ∧ (j ≤ b.length ∨ q = 0) ∧ leN R + q * 256 ^ (i + j) = num 256 (a.take i) * num 256 b + dg a i * num 256 (b.take j) * 256 ^ i
theorem MulR.start (a b : List Nat) (m : Nat) : MulR a b m 0 (nulls m) := ⟨nulls_length m, fun i _ => by rw [nb_nulls]; exact dg_noughts m i, by unfold leN; rw [nb_nulls, num_noughts, List.take_zero, num_nil, Nat.zero_mul]⟩
theorem MulR.enter {a b : List Nat} {R : List UInt8} {m i : Nat} (h : MulR a b m i R) : MulB a b m i 0 R 0 :=
  ⟨h.1, fun t ht => h.2.1 t (by omega), by omega, by omega, .inl (by omega), by rw [h.2.2, List.take_zero, num_nil]; simp⟩
theorem MulB.next {a b : List Nat} {R : List UInt8} {m i j q s : Nat} (h : MulB a b m i j R q) (hj : j ≤ b.length) (hm : i + b.length < m) (hs : dg (nb R) (i + j) + dg a i * dg b j + q = s) (h5 : s ≤ 65535) : MulB a b m i (j + 1) (R.set (i + j) (UInt8.ofNat (s % 256))) (s / 256) := by
  obtain ⟨h1, h2, h3, h4, h5', h6⟩ := h
  refine ⟨by simp [h1], fun t ht => ?_, by omega, by omega, ?_, ?_⟩
  · rw [nb_set, dg_set _ (by omega)]
    exact h2 t (by omega)
  · by_cases hl : j < b.length
    · exact .inl (by omega)
    · have e1 := h2 (i + j) (by omega)
      have e2 := dg_none (ws := b) (i := j) (by omega)
      rw [e1, e2, Nat.mul_zero] at hs
      exact .inr (by omega)
  · have h7 := num_set 256 (s % 256) (show i + j < (nb R).length by rw [nb_length]; omega)
    unfold leN at *
    rw [nb_set, UInt8.toNat_ofNat_of_lt' (show s % 256 < 256 by omega), num_take, Nat.mul_add, Nat.add_mul, ← Nat.add_assoc i j 1, Nat.pow_succ]
    have hs2 : s % 256 + s / 256 * 256 = dg (nb R) (i + j) + dg a i * dg b j + q := by omega
    have e := congrArg (· * 256 ^ (i + j)) hs2
    simp only [Nat.add_mul] at e
    have e2 : dg a i * (dg b j * 256 ^ j) * 256 ^ i = dg a i * dg b j * 256 ^ (i + j) := by
      rw [Nat.pow_add]; simp only [Nat.mul_assoc, Nat.mul_comm, Nat.mul_left_comm]
    have e3 : s / 256 * (256 ^ (i + j) * 256) = s / 256 * 256 * 256 ^ (i + j) := by rw [Nat.mul_comm (256 ^ (i + j)) 256, Nat.mul_assoc]
    rw [e2, e3]
    omega
theorem MulB.done {a b : List Nat} {R : List UInt8} {m i j : Nat} (h : MulB a b m i j R 0) (hj : b.length ≤ j) : MulR a b m (i + 1) R := by
  obtain ⟨h1, h2, h3, h4, h5, h6⟩ := h
  refine ⟨h1, fun t ht => h2 t (by omega), ?_⟩
  rw [Nat.zero_mul, Nat.add_zero, num_all 256 hj] at h6
  rw [h6, num_take, Nat.add_mul]
  simp only [Nat.mul_assoc, Nat.mul_comm]
end Go.Proofs.YthfbgcjfnpajjaaDoor
