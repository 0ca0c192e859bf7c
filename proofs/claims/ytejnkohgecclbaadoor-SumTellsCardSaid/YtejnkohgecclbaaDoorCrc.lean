import Derived.Test.YtejnkohgecclbaaDoorWords
/- The sum of 32 bits, in plain terms: a register of any width that is shifted; bytes as one number. -/
namespace Go.Proofs.YtejnkohgecclbaaDoor
set_option linter.unusedVariables false

def P32 : Nat := 3988292384
/-- One shift. -/
def S (x : Nat) : Nat := if x % 2 = 1 then x / 2 ^^^ P32 else x / 2
def Sn : Nat → Nat → Nat
  | 0, x => x
  | n + 1, x => Sn n (S x)
theorem xor_half (x y : Nat) : (x ^^^ y) / 2 = x / 2 ^^^ y / 2 := by
  have := Nat.shiftRight_xor_distrib (a := x) (b := y) (i := 1)
  simpa [Nat.shiftRight_eq_div_pow] using this
theorem S_xor (x y : Nat) : S (x ^^^ y) = S x ^^^ S y := by
  unfold S
  have hp : (x ^^^ y) % 2 = (x % 2 + y % 2) % 2 := by
    have h := Nat.testBit_xor x y 0
    simp only [Nat.testBit_zero] at h
    rcases Nat.mod_two_eq_zero_or_one x with hx | hx <;> rcases Nat.mod_two_eq_zero_or_one y with hy | hy <;> rcases Nat.mod_two_eq_zero_or_one (x ^^^ y) with hz | hz <;> rw [hx, hy, hz] at h <;> simp at h <;> omega
  rw [xor_half, hp]
  have hx := Nat.mod_two_eq_zero_or_one x
  have hy := Nat.mod_two_eq_zero_or_one y
  rcases hx with hx | hx <;> rcases hy with hy | hy
  · rw [if_neg (by omega), if_neg (by omega), if_neg (by omega)]
  · rw [if_pos (by omega), if_neg (by omega), if_pos (by omega), Nat.xor_assoc]
  · rw [if_pos (by omega), if_pos (by omega), if_neg (by omega)]
    rw [Nat.xor_assoc, Nat.xor_comm (y / 2), ← Nat.xor_assoc]
  · rw [if_neg (by omega), if_pos (by omega), if_pos (by omega)]
    rw [Nat.xor_assoc, Nat.xor_comm P32, Nat.xor_assoc, Nat.xor_self, Nat.xor_zero]
theorem Sn_xor (n : Nat) : ∀ x y : Nat, Sn n (x ^^^ y) = Sn n x ^^^ Sn n y := by
  induction n with
  | zero => intro x y; rfl
  | succ n ih => intro x y; simp only [Sn]; rw [S_xor, ih]
theorem Sn_add (m n : Nat) : ∀ x, Sn (m + n) x = Sn n (Sn m x) := by
  induction m with
  | zero => intro x; rw [Nat.zero_add]; rfl
  | succ m ih => intro x; rw [Nat.add_right_comm]; exact ih (S x)
theorem S_double (x : Nat) : S (x * 2) = x := by
  unfold S
  rw [if_neg (by omega)]
  omega
theorem Sn_pow (k : Nat) : ∀ x, Sn k (x * 2 ^ k) = x := by
  induction k with
  | zero => intro x; simp [Sn]
  | succ k ih =>
    intro x
    simp only [Sn]
    rw [Nat.pow_succ, ← Nat.mul_assoc, S_double, ih]
theorem P32_lt : P32 < 2 ^ 32 := by decide
theorem S_lt {x : Nat} (h : x < 2 ^ 32) : S x < 2 ^ 32 := by
  unfold S
  split
  · exact Nat.xor_lt_two_pow (by omega) P32_lt
  · omega
theorem Sn_lt (n : Nat) : ∀ {x : Nat}, x < 2 ^ 32 → Sn n x < 2 ^ 32 := by
  induction n with
  | zero => intro x h; exact h
  | succ n ih => intro x h; exact ih (S_lt h)
/-- Half a byte, by way of a table. -/
theorem low_high (x : Nat) (k : Nat) : x = (x / 2 ^ k) * 2 ^ k ^^^ x % 2 ^ k := by
  apply Nat.eq_of_testBit_eq
  intro i
  rw [Nat.testBit_xor, Nat.testBit_mod_two_pow, Nat.mul_comm, Nat.testBit_two_pow_mul]
  by_cases h : i < k
  · simp [h, Nat.not_le.2 h]
  · have h2 : k ≤ i := by omega
    simp [h, h2, Nat.testBit_div_two_pow]
theorem nibble (x : Nat) : Sn 4 x = x / 16 ^^^ Sn 4 (x % 16) := by
  have h := low_high x 4
  rw [show (2 : Nat) ^ 4 = 16 from rfl] at h
  conv => lhs; rw [h]
  rw [Sn_xor, show (16 : Nat) = 2 ^ 4 from rfl, Sn_pow]

/-! ### Bytes as one number -/
def feed (r : Nat) (us : List UInt8) : Nat := us.foldl (fun r u => Sn 8 (r ^^^ u.toNat)) r
theorem feed_append (r : Nat) (us vs : List UInt8) : feed r (us ++ vs) = feed (feed r us) vs := by simp [feed]
theorem feed_take (r : Nat) (us : List UInt8) (k : Nat) (h : k < us.length) : feed r (us.take (k + 1)) = Sn 8 (feed r (us.take k) ^^^ (us[k]?.getD 0).toNat) := by
  rw [List.take_succ_eq_append_getElem h, feed_append]
  simp [feed, h]
theorem feed_lt (us : List UInt8) : ∀ {r : Nat}, r < 2 ^ 32 → feed r us < 2 ^ 32 := by
  induction us with
  | nil => intro r h; exact h
  | cons u us ih =>
    intro r h
    have h1 : feed r (u :: us) = feed (Sn 8 (r ^^^ u.toNat)) us := rfl
    rw [h1]
    exact ih (Sn_lt 8 (Nat.xor_lt_two_pow h (by have := u.toNat_lt; omega)))
def crcN (us : List UInt8) : Nat := 4294967295 - feed 4294967295 us
end Go.Proofs.YtejnkohgecclbaaDoor
