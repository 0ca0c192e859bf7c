import Derived.Test.YthfbgcjfnpajjaaDoorNumM
/- Numbers as text, base 16: plain lists of bytes. Of no program. -/
namespace Go.Proofs.YthfbgcjfnpajjaaDoor
set_option linter.unusedVariables false

/-- The sign of a digit. -/
def dgc (d : Nat) : UInt8 := if d < 10 then UInt8.ofNat (48 + d) else UInt8.ofNat (87 + d)
/-- k digits of a number, the highest first. -/
def hexW : Nat → Nat → List UInt8
  | 0, _ => []
  | k + 1, N => dgc (N / 16 ^ k % 16) :: hexW k N
theorem hexW_length (k N : Nat) : (hexW k N).length = k := by
  induction k with
  | zero => rfl
  | succ k ih => simp [hexW, ih]
def strip0 (l : List UInt8) : List UInt8 := l.dropWhile (· == 48)
theorem strip0_yes {c : UInt8} {l : List UInt8} (h : (c == 48) = true) : strip0 (c :: l) = strip0 l := by unfold strip0; rw [List.dropWhile_cons, if_pos h]
theorem strip0_no {c : UInt8} {l : List UInt8} (h : (c == 48) = false) : strip0 (c :: l) = c :: l := by unfold strip0; rw [List.dropWhile_cons, if_neg (by simp [h])]
theorem strip_grow {k N : Nat} (h : N < 16 ^ k) : strip0 (hexW (k + 1) N) = strip0 (hexW k N) := by
  rw [hexW, strip0_yes (by rw [Nat.div_eq_of_lt h]; rfl)]
theorem strip_more {k N : Nat} (h : N < 16 ^ k) (j : Nat) : strip0 (hexW (k + j) N) = strip0 (hexW k N) := by
  induction j with
  | zero => rfl
  | succ j ih => rw [← Nat.add_assoc, strip_grow (Nat.lt_of_lt_of_le h (Nat.pow_le_pow_right (by omega) (by omega))), ih]
/-- A number's text. -/
def hexT (N : Nat) : List UInt8 := if N = 0 then [48] else strip0 (hexW N N)
theorem lt_pow16 (N : Nat) : N < 16 ^ N := Nat.lt_pow_self (by omega)
theorem hexT_of {k N : Nat} (h : N < 16 ^ k) (h0 : N ≠ 0) : strip0 (hexW k N) = hexT N := by
  unfold hexT
  rw [if_neg h0]
  rcases Nat.le_total k N with hk | hk
  · obtain ⟨j, rfl⟩ := Nat.exists_eq_add_of_le hk
    rw [strip_more h]
  · obtain ⟨j, hj⟩ := Nat.exists_eq_add_of_le hk
    rw [hj, strip_more (lt_pow16 N)]
/-! ### Texts as numbers -/
/-! ### Digits of digits -/
theorem num_div {b : Nat} {ws : List Nat} (h : Below' b ws) (q : Nat) : num b ws / b ^ q % b = dg ws q := by
  by_cases hb : b = 0
  · subst hb
    cases ws with
    | nil => simp [num_nil, dg]
    | cons x ws => exact absurd (h x (List.mem_cons_self ..)) (by omega)
  have hp : 0 < b ^ q := Nat.pow_pos (by omega)
  by_cases hq : q < ws.length
  · rw [num_split b hq]
    have h1 := num_lt (below_take h q)
    rw [List.length_take, Nat.min_eq_left (by omega)] at h1
    have h2 := dg_lt (by omega) h q
    have e : num b (ws.take q) + dg ws q * b ^ q + b ^ (q + 1) * num b (ws.drop (q + 1)) = num b (ws.take q) + b ^ q * (dg ws q + b * num b (ws.drop (q + 1))) := by
      rw [Nat.pow_succ, Nat.mul_add, Nat.mul_comm (b ^ q) (dg ws q), Nat.mul_assoc]; omega
    rw [e, Nat.add_mul_div_left _ _ hp, Nat.div_eq_of_lt h1, Nat.zero_add, Nat.add_mul_mod_self_left, Nat.mod_eq_of_lt h2]
  · rw [dg_none (by omega)]
    have h1 := num_lt h
    rw [Nat.div_eq_of_lt (Nat.lt_of_lt_of_le h1 (Nat.pow_le_pow_right (by omega) (by omega))), Nat.zero_mod]
theorem num_hex {b e : Nat} {ws : List Nat} (h : Below' b ws) (hb : b = 16 ^ e) (i : Nat) (he : 0 < e) : num b ws / 16 ^ i % 16 = dg ws (i / e) / 16 ^ (i % e) % 16 := by
  have h1 := num_div h (i / e)
  have hr := Nat.mod_lt i he
  have e1 : 16 ^ i = b ^ (i / e) * 16 ^ (i % e) := by
    rw [hb, ← Nat.pow_mul, ← Nat.pow_add, Nat.div_add_mod]
  rw [e1, ← Nat.div_div_eq_div_mul]
  generalize num b ws / b ^ (i / e) = X at *
  have h2 := Nat.div_add_mod X b
  rw [h1] at h2
  obtain ⟨d, hd⟩ : ∃ d, e = i % e + 1 + d := ⟨e - (i % e) - 1, by omega⟩
  have h3 : b = 16 ^ (i % e) * (16 * 16 ^ d) := by
    rw [hb]
    conv => lhs; rw [hd]
    rw [Nat.pow_add, Nat.pow_add]
    simp only [Nat.pow_one, Nat.mul_assoc]
  rw [← h2]
  generalize X / b = Y at *
  generalize dg ws (i / e) = x at *
  rw [h3, Nat.mul_assoc, Nat.mul_add_div (Nat.pow_pos (by omega)), Nat.mul_assoc, Nat.mul_add_mod]
end Go.Proofs.YthfbgcjfnpajjaaDoor
