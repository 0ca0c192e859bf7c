import Derived.Test.YthfbgcjfnpajjaaDoorRefC
import Derived.Test.YthfbgcjfnpajjaaDoorL06B
/- NatLaws: its walk. -/
namespace Go.Proofs.YthfbgcjfnpajjaaDoor
open Go.RowKit
set_option linter.unusedVariables false
set_option maxRecDepth 100000

/-- A number of at most k bytes. -/
def LB (k N : Nat) : Prop := N < 256 ^ k
theorem LB.mono {k j N : Nat} (h : LB k N) (hj : k ≤ j) : LB j N := Nat.lt_of_lt_of_le h (Nat.pow_le_pow_right (by omega) hj)
theorem LB.mul {a b N M : Nat} (h : LB a N) (h2 : LB b M) : LB (a + b) (N * M) := by
  unfold LB at *
  rw [Nat.pow_add]
  have h0 : 0 < 256 ^ b := Nat.pow_pos (by omega)
  exact Nat.mul_lt_mul_of_lt_of_le h (Nat.le_of_lt h2) h0
theorem LB.add {a N M : Nat} (h : LB a N) (h2 : LB a M) : LB (a + 1) (N + M) := by
  unfold LB at *
  rw [Nat.pow_succ]
  omega
theorem LB.one : LB 1 1 := by unfold LB; decide
theorem LB.pow {a N : Nat} (h : LB a N) (ha : 1 ≤ a) (i : Nat) : LB (a * i + 1) (N ^ i) := by
  induction i with
  | zero => rw [Nat.pow_zero, Nat.mul_zero]; exact LB.one
  | succ i ih =>
    rw [Nat.pow_succ, Nat.mul_succ, show a * i + a + 1 = (a * i + 1) + a by omega]
    exact ih.mul h
theorem LB.bd {k N : Nat} (h : LB k N) (hk : k ≤ 4000) : N < BD := Nat.lt_trans h (pow_lt_bd (by unfold K4095; omega))
theorem LB.of (us : List UInt8) {k : Nat} (h : us.length ≤ k) : LB k (leN us) := by
  have := num_lt (nb_lt us)
  rw [nb_length] at this
  exact Nat.lt_of_lt_of_le this (Nat.pow_le_pow_right (by omega) h)
theorem sum2 {N M k : Nat} (h1 : LB k N) (h2 : LB k M) (hk : k ≤ 3000) : opAll (fun s N => s + N) 0 [N, M] = some (N + M) := by
  have := op_two (op := fun s N => s + N) (s := 0) (N := N) (M := M) (by simpa using h1.bd (by omega)) (by simpa using (h1.add h2).bd (by omega))
  simpa using this
theorem prod2 {N M a b : Nat} (h1 : LB a N) (h2 : LB b M) (hk : a + b ≤ 3000) : opAll (fun s N => s * N) 1 [N, M] = some (N * M) := by
  have := op_two (op := fun s N => s * N) (s := 1) (N := N) (M := M) (by simpa using h1.bd (by omega)) (by simpa using (h1.mul h2).bd (by omega))
  simpa using this
end Go.Proofs.YthfbgcjfnpajjaaDoor
