import Derived.Test.YthfbgcjfnpajjaaDoorNumM
/- Numbers as text, base 16: plain lists of bytes. Of no program. -/
namespace Go.Proofs.YthfbgcjfnpajjaaDoor
set_option linter.unusedVariables false

/-- The sign of a digit. -/
def dgc (d : Nat) : UInt8 := if d < 10 then UInt8.ofNat (48 + d) else UInt8.ofNat (87 + d)
/-- A digit's worth. -/
def dv (c : UInt8) : Nat := if c < 58 then c.toNat - 48 else c.toNat - 87
def isHex (c : UInt8) : Bool := (decide (48 ≤ c) && decide (c ≤ 57)) || (decide (97 ≤ c) && decide (c ≤ 102))
theorem dv_dgc : ∀ d, d < 16 → dv (dgc d) = d ∧ isHex (dgc d) = true := by decide
/-- k digits of a number, the highest first. -/
def hexW : Nat → Nat → List UInt8
  | 0, _ => []
  | k + 1, N => dgc (N / 16 ^ k % 16) :: hexW k N
theorem hexW_length (k N : Nat) : (hexW k N).length = k := by
  induction k with
  | zero => rfl
  | succ k ih => simp [hexW, ih]
def strip0 (l : List UInt8) : List UInt8 := l.dropWhile (· == 48)
theorem strip0_yes {c : UInt8} {l : List UInt8} (h : (c == 48) = true) : strip0 (c :: l) = strip0 l := by unfold strip0; rw [List.dropWhile_cons, if_pos h]
theorem strip0_no {c : UInt8} {l : List UInt8} (h : (c == 48) = false) : strip0 (c :: l) = c :: l := by unfold strip0; rw [List.dropWhile_cons, if_neg (by simp [h])]
theorem strip_zero (k : Nat) : strip0 (hexW k 0) = [] := by
  induction k with
  | zero => rfl
  | succ k ih => rw [hexW, strip0_yes (by rw [Nat.zero_div]; rfl), ih]
theorem strip_grow {k N : Nat} (h : N < 16 ^ k) : strip0 (hexW (k + 1) N) = strip0 (hexW k N) := by
  rw [hexW, strip0_yes (by rw [Nat.div_eq_of_lt h]; rfl)]
theorem strip_more {k N : Nat} (h : N < 16 ^ k) (j : Nat) : strip0 (hexW (k + j) N) = strip0 (hexW k N) := by
  induction j with
  | zero => rfl
  | succ j ih => rw [← Nat.add_assoc, strip_grow (Nat.lt_of_lt_of_le h (Nat.pow_le_pow_right (by omega) (by omega))), ih]
/-- A number's text. -/
def hexT (N : Nat) : List UInt8 := if N = 0 then [48] else strip0 (hexW N N)
theorem hexT_zero : hexT 0 = [48] := rfl
theorem lt_pow16 (N : Nat) : N < 16 ^ N := Nat.lt_pow_self (by omega)
theorem hexT_of {k N : Nat} (h : N < 16 ^ k) (h0 : N ≠ 0) : strip0 (hexW k N) = hexT N := by
  unfold hexT
  rw [if_neg h0]
  rcases Nat.le_total k N with hk | hk
  · obtain ⟨j, rfl⟩ := Nat.exists_eq_add_of_le hk
    rw [strip_more h]
  · obtain ⟨j, hj⟩ := Nat.exists_eq_add_of_le hk
    rw [hj, strip_more (lt_pow16 N)]
/-! ### Texts as numbers -/
def hexV (l : List UInt8) : Nat := l.foldl (fun a c => a * 16 + dv c) 0
theorem hexV_fold (l : List UInt8) (a : Nat) : l.foldl (fun a c => a * 16 + dv c) a = a * 16 ^ l.length + hexV l := by
  induction l generalizing a with
  | nil => simp [hexV]
  | cons c l ih =>
    unfold hexV
    rw [List.foldl_cons, List.foldl_cons, ih, ih, List.length_cons, Nat.pow_succ, Nat.add_mul, Nat.zero_mul, Nat.zero_add, Nat.mul_assoc, Nat.mul_comm 16, Nat.add_assoc]
theorem hexV_cons (c : UInt8) (l : List UInt8) : hexV (c :: l) = dv c * 16 ^ l.length + hexV l := by
  have := hexV_fold l (0 * 16 + dv c)
  rw [Nat.zero_mul, Nat.zero_add] at this
  rw [← this]
  unfold hexV
  rw [List.foldl_cons, Nat.zero_mul, Nat.zero_add]
theorem dv_lt {c : UInt8} (h : isHex c = true) : dv c < 16 := by
  unfold isHex at h
  unfold dv
  simp only [Bool.or_eq_true, Bool.and_eq_true, decide_eq_true_eq, UInt8.le_iff_toNat_le] at h
  have e1 : (48 : UInt8).toNat = 48 := rfl
  have e2 : (57 : UInt8).toNat = 57 := rfl
  have e3 : (97 : UInt8).toNat = 97 := rfl
  have e4 : (102 : UInt8).toNat = 102 := rfl
  have e5 : (58 : UInt8).toNat = 58 := rfl
  rw [e1, e2, e3, e4] at h
  split
  · rename_i h1; rw [UInt8.lt_iff_toNat_lt, e5] at h1; omega
  · rename_i h1; rw [UInt8.lt_iff_toNat_lt, e5] at h1; omega
theorem hexV_lt {l : List UInt8} (h : ∀ c ∈ l, isHex c = true) : hexV l < 16 ^ l.length := by
  induction l with
  | nil => simp [hexV]
  | cons c l ih =>
    have h1 := ih fun d hd => h d (List.mem_cons_of_mem _ hd)
    have h2 := dv_lt (h c (List.mem_cons_self ..))
    rw [hexV_cons, List.length_cons, Nat.pow_succ]
    have h3 : dv c * 16 ^ l.length ≤ 15 * 16 ^ l.length := Nat.mul_le_mul_right _ (by omega)
    omega
theorem hexV_hexW (k N : Nat) : hexV (hexW k N) = N % 16 ^ k := by
  induction k with
  | zero => simp [hexW, hexV]; omega
  | succ k ih => rw [hexW, hexV_cons, ih, hexW_length, (dv_dgc _ (Nat.mod_lt _ (by omega))).1, Nat.pow_succ, Nat.mod_mul, Nat.mul_comm (16 ^ k)]; omega
theorem hexV_strip (l : List UInt8) : hexV (strip0 l) = hexV l := by
  induction l with
  | nil => rfl
  | cons c l ih =>
    by_cases h : (c == 48) = true
    · rw [strip0_yes h, ih, hexV_cons]
      have : c = 48 := by simpa using h
      subst this
      have e : dv 48 = 0 := rfl
      rw [e]; omega
    · rw [strip0_no (by simpa using h)]
theorem hex_hexW (k N : Nat) : ∀ c ∈ hexW k N, isHex c = true := by
  induction k with
  | zero => intro c hc; simp [hexW] at hc
  | succ k ih =>
    intro c hc
    rw [hexW, List.mem_cons] at hc
    rcases hc with rfl | hc
    · exact (dv_dgc _ (Nat.mod_lt _ (by omega))).2
    · exact ih c hc
theorem mem_strip {l : List UInt8} {c : UInt8} (h : c ∈ strip0 l) : c ∈ l := by unfold strip0 at h; exact (List.dropWhile_sublist _).subset h
theorem strip_head {l t : List UInt8} {c : UInt8} (h : strip0 l = c :: t) : (c == 48) = false := by
  induction l with
  | nil => simp [strip0] at h
  | cons d l ih =>
    by_cases hd : (d == 48) = true
    · rw [strip0_yes hd] at h; exact ih h
    · rw [strip0_no (by simpa using hd)] at h
      injection h with h1 h2
      subst h1
      simpa using hd
/-- Is it the text of a number? -/
def textB (l : List UInt8) : Bool := (l == [48]) || (!l.isEmpty && !(l.head? == some 48) && l.all isHex)
theorem textB_hexT (N : Nat) : textB (hexT N) = true := by
  unfold hexT
  by_cases h0 : N = 0
  · rw [if_pos h0]; rfl
  · rw [if_neg h0]
    have hne : hexV (strip0 (hexW N N)) = N := by rw [hexV_strip, hexV_hexW, Nat.mod_eq_of_lt (lt_pow16 N)]
    cases hs : strip0 (hexW N N) with
    | nil => rw [hs] at hne; exact absurd hne.symm (by simpa [hexV] using h0)
    | cons c t =>
      have h1 := strip_head hs
      have h2 : (c :: t).all isHex = true := List.all_eq_true.2 fun d hd => hex_hexW N N d (mem_strip (by rw [hs]; exact hd))
      unfold textB
      rw [h2]
      have h3 : (some c == some 48) = false := by simpa using h1
      simp [h3]
theorem hexV_hexT (N : Nat) : hexV (hexT N) = N := by
  unfold hexT
  by_cases h0 : N = 0
  · rw [if_pos h0, h0]; rfl
  · rw [if_neg h0, hexV_strip, hexV_hexW, Nat.mod_eq_of_lt (lt_pow16 N)]
theorem hexT_length {k N : Nat} (h : N < 16 ^ k) (hk : 1 ≤ k) : (hexT N).length ≤ k := by
  by_cases h0 : N = 0
  · rw [h0, hexT_zero]; exact hk
  · rw [← hexT_of h h0]
    have := (List.dropWhile_sublist (· == 48) (l := hexW k N)).length_le
    rw [hexW_length] at this
    exact this
/-! ### Digits of digits -/
theorem num_div {b : Nat} {ws : List Nat} (h : Below' b ws) (q : Nat) : num b ws / b ^ q % b = dg ws q := by
  by_cases hb : b = 0
  · subst hb
    cases ws with
    | nil => simp [num_nil, dg]
    | cons x ws => exact absurd (h x (List.mem_cons_self ..)) (by omega)
  have hp : 0 < b ^ q := Nat.pow_pos (by omega)
  by_cases hq : q < ws.length
  · rw [num_split b hq]
    have h1 := num_lt (below_take h q)
    rw [List.length_take, Nat.min_eq_left (by omega)] at h1
    have h2 := dg_lt (by omega) h q
    have e : num b (ws.take q) + dg ws q * b ^ q + b ^ (q + 1) * num b (ws.drop (q + 1)) = num b (ws.take q) + b ^ q * (dg ws q + b * num b (ws.drop (q + 1))) := by
      rw [Nat.pow_succ, Nat.mul_add, Nat.mul_comm (b ^ q) (dg ws q), Nat.mul_assoc]; omega
    rw [e, Nat.add_mul_div_left _ _ hp, Nat.div_eq_of_lt h1, Nat.zero_add, Nat.add_mul_mod_self_left, Nat.mod_eq_of_lt h2]
  · rw [dg_none (by omega)]
    have h1 := num_lt h
    rw [Nat.div_eq_of_lt (Nat.lt_of_lt_of_le h1 (Nat.pow_le_pow_right (by omega) (by omega))), Nat.zero_mod]
theorem num_hex {b e : Nat} {ws : List Nat} (h : Below' b ws) (hb : b = 16 ^ e) (i : Nat) (he : 0 < e) : num b ws / 16 ^ i % 16 = dg ws (i / e) / 16 ^ (i % e) % 16 := by
  have h1 := num_div h (i / e)
  have hr := Nat.mod_lt i he
  have e1 : 16 ^ i = b ^ (i / e) * 16 ^ (i % e) := by
    rw [hb, ← Nat.pow_mul, ← Nat.pow_add, Nat.div_add_mod]
  rw [e1, ← Nat.div_div_eq_div_mul]
  generalize num b ws / b ^ (i / e) = X at *
  have h2 := Nat.div_add_mod X b
  rw [h1] at h2
  obtain ⟨d, hd⟩ : ∃ d, e = i % e + 1 + d := ⟨e - (i % e) - 1, by omega⟩
  have h3 : b = 16 ^ (i % e) * (16 * 16 ^ d) := by
    rw [hb]
    conv => lhs; rw [hd]
    rw [Nat.pow_add, Nat.pow_add]
    simp only [Nat.pow_one, Nat.mul_assoc]
  rw [← h2]
  generalize X / b = Y at *
  generalize dg ws (i / e) = x at *
  rw [h3, Nat.mul_assoc, Nat.mul_add_div (Nat.pow_pos (by omega)), Nat.mul_assoc, Nat.mul_add_mod]
end Go.Proofs.YthfbgcjfnpajjaaDoor
