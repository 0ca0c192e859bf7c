import Derived.Test.YthfbgcjfnpajjaaDoorRows
/- Numbers by their digits, the lowest first, in any base: plain arithmetic. Of no program. -/
namespace Go.Proofs.YthfbgcjfnpajjaaDoor
set_option linter.unusedVariables false

/-- The number of these digits in base b, the lowest first. -/
def num (b : Nat) (ws : List Nat) : Nat := ws.foldr (fun x a => x + b * a) 0
theorem num_nil (b : Nat) : num b [] = 0 := rfl
theorem num_cons (b x : Nat) (ws : List Nat) : num b (x :: ws) = x + b * num b ws := rfl
def Below' (b : Nat) (ws : List Nat) : Prop := ∀ x ∈ ws, x < b
/-- The digit at a place; above the highest one stand noughts. -/
def dg (ws : List Nat) (i : Nat) : Nat := ws[i]?.getD 0
theorem dg_none {ws : List Nat} {i : Nat} (h : ws.length ≤ i) : dg ws i = 0 := by unfold dg; rw [List.getElem?_eq_none h]; rfl
theorem dg_get {ws : List Nat} {i x : Nat} (h : ws[i]? = some x) : dg ws i = x := by unfold dg; rw [h]; rfl
theorem dg_some {ws : List Nat} {i : Nat} (h : i < ws.length) : ws[i]? = some (dg ws i) := by unfold dg; rw [List.getElem?_eq_getElem h]; rfl
theorem dg_lt {b : Nat} {ws : List Nat} (hb : 0 < b) (h : Below' b ws) (i : Nat) : dg ws i < b := by
  by_cases hi : i < ws.length
  · have := dg_some hi
    exact h _ (List.mem_of_getElem? this)
  · rw [dg_none (by omega)]; exact hb
theorem num_append (b : Nat) (us ws : List Nat) : num b (us ++ ws) = num b us + b ^ us.length * num b ws := by
  induction us with
  | nil => simp [num_nil]
  | cons u us ih =>
    rw [List.cons_append, num_cons, num_cons, ih, List.length_cons, Nat.pow_succ, Nat.mul_add, Nat.mul_comm (b ^ us.length) b, Nat.mul_assoc]
    omega
theorem num_snoc (b x : Nat) (ws : List Nat) : num b (ws ++ [x]) = num b ws + x * b ^ ws.length := by
  rw [num_append, num_cons, num_nil, Nat.mul_zero, Nat.add_zero, Nat.mul_comm]
theorem num_lt {b : Nat} {ws : List Nat} (h : Below' b ws) : num b ws < b ^ ws.length := by
  induction ws with
  | nil => simp [num_nil]
  | cons x ws ih =>
    have h1 := ih fun y hy => h y (List.mem_cons_of_mem _ hy)
    have h2 := h x (List.mem_cons_self ..)
    rw [num_cons, List.length_cons, Nat.pow_succ, Nat.mul_comm _ b]
    have h3 : b * num b ws + b ≤ b * b ^ ws.length := by
      rw [← Nat.mul_succ]; exact Nat.mul_le_mul_left _ h1
    omega
theorem num_take (b : Nat) (ws : List Nat) (i : Nat) : num b (ws.take (i + 1)) = num b (ws.take i) + dg ws i * b ^ i := by
  by_cases hi : i < ws.length
  · rw [List.take_add_one, dg_some hi, Option.toList_some, num_snoc, List.length_take, Nat.min_eq_left (by omega)]
  · rw [dg_none (by omega), List.take_of_length_le (by omega), List.take_of_length_le (by omega)]; omega
theorem num_all (b : Nat) {ws : List Nat} {i : Nat} (h : ws.length ≤ i) : num b (ws.take i) = num b ws := by rw [List.take_of_length_le h]
theorem num_zero (b : Nat) {ws : List Nat} (h : ∀ i, dg ws i = 0) : num b ws = 0 := by
  induction ws with
  | nil => rfl
  | cons x ws ih =>
    have h0 : x = 0 := h 0
    rw [num_cons, h0, ih (fun i => h (i + 1)), Nat.mul_zero]
theorem dg_drop (ws : List Nat) (m i : Nat) : dg (ws.drop m) i = dg ws (m + i) := by unfold dg; rw [List.getElem?_drop]
/-- Above place m stand noughts alone. -/
def Null (ws : List Nat) (m : Nat) : Prop := ∀ i, m ≤ i → dg ws i = 0
theorem num_null (b : Nat) {ws : List Nat} {m : Nat} (h : Null ws m) : num b (ws.take m) = num b ws := by
  have h1 := num_append b (ws.take m) (ws.drop m)
  rw [List.take_append_drop, num_zero b (ws := ws.drop m) (fun i => by rw [dg_drop]; exact h _ (by omega)), Nat.mul_zero] at h1
  omega
/-- No needless noughts. -/
def Canon (ws : List Nat) : Prop := ws.length = 0 ∨ dg ws (ws.length - 1) ≠ 0
theorem canon_nil : Canon [] := .inl rfl
theorem canon_take {ws : List Nat} {m : Nat} (hm : m ≤ ws.length) (h : m = 0 ∨ dg ws (m - 1) ≠ 0) : Canon (ws.take m) := by
  have hl : (ws.take m).length = m := by rw [List.length_take]; omega
  unfold Canon
  rw [hl]
  by_cases h0 : m = 0
  · exact .inl h0
  · refine .inr ?_
    have h1 := h.resolve_left h0
    unfold dg at h1 ⊢
    rwa [List.getElem?_take, if_pos (by omega)]
theorem num_split (b : Nat) {ws : List Nat} {i : Nat} (h : i < ws.length) : num b ws = num b (ws.take i) + dg ws i * b ^ i + b ^ (i + 1) * num b (ws.drop (i + 1)) := by
  have h1 := num_append b (ws.take (i + 1)) (ws.drop (i + 1))
  rw [List.take_append_drop, num_take, List.length_take, Nat.min_eq_left (by omega)] at h1
  exact h1
theorem canon_ge (b : Nat) {ws : List Nat} (h : Canon ws) (h0 : ws.length ≠ 0) : b ^ (ws.length - 1) ≤ num b ws := by
  have h1 := h.resolve_left h0
  rw [num_split b (show ws.length - 1 < ws.length by omega)]
  have h2 : 1 * b ^ (ws.length - 1) ≤ dg ws (ws.length - 1) * b ^ (ws.length - 1) := Nat.mul_le_mul_right _ (Nat.pos_of_ne_zero h1)
  omega
theorem below_take {b : Nat} {ws : List Nat} (h : Below' b ws) (i : Nat) : Below' b (ws.take i) := fun x hx => h x (List.mem_of_mem_take hx)
theorem below_snoc {b x : Nat} {ws : List Nat} (h : Below' b ws) (hx : x < b) : Below' b (ws ++ [x]) := fun y hy => by
  rcases List.mem_append.1 hy with h1 | h1
  · exact h y h1
  · simp at h1; omega
theorem len_lt {b : Nat} {us ws : List Nat} (hb : 0 < b) (hu : Below' b us) (hw : Canon ws) (hl : us.length < ws.length) : num b us < num b ws := by
  have h1 := num_lt hu
  have h2 := canon_ge b hw (by omega)
  have h3 : b ^ us.length ≤ b ^ (ws.length - 1) := Nat.pow_le_pow_right hb (by omega)
  omega
theorem dig_lt {b : Nat} {us ws : List Nat} {i : Nat} (hb : 0 < b) (hu : Below' b us) (hl : us.length = ws.length) (hi : i < us.length) (hd : us.drop (i + 1) = ws.drop (i + 1)) (hx : dg us i < dg ws i) : num b us < num b ws := by
  rw [num_split b hi, num_split b (show i < ws.length by omega), hd]
  have h1 := num_lt (below_take hu i)
  rw [List.length_take, Nat.min_eq_left (by omega)] at h1
  have h2 : (dg us i + 1) * b ^ i ≤ dg ws i * b ^ i := Nat.mul_le_mul_right _ hx
  rw [Nat.add_mul] at h2
  omega
theorem num_set (b : Nat) {ws : List Nat} {k : Nat} (y : Nat) (h : k < ws.length) : num b (ws.set k y) + dg ws k * b ^ k = num b ws + y * b ^ k := by
  have h1 := num_split b (ws := ws.set k y) (i := k) (by simpa using h)
  have h2 := num_split b h
  have e1 : (ws.set k y).take k = ws.take k := by rw [List.take_set]; exact List.set_eq_of_length_le (by rw [List.length_take]; omega)
  have e2 : (ws.set k y).drop (k + 1) = ws.drop (k + 1) := by rw [List.drop_set]; simp
  have e3 : dg (ws.set k y) k = y := by unfold dg; simp [h]
  rw [e1, e2, e3] at h1
  omega
theorem dg_set {ws : List Nat} {k i : Nat} (y : Nat) (h : k ≠ i) : dg (ws.set k y) i = dg ws i := by unfold dg; rw [List.getElem?_set_ne h]
theorem below_set {b y : Nat} {ws : List Nat} (h : Below' b ws) (hy : y < b) (k : Nat) : Below' b (ws.set k y) := fun x hx => by
  rcases List.mem_or_eq_of_mem_set hx with h1 | h1
  · exact h x h1
  · omega
theorem drop_pred {us ws : List Nat} {i : Nat} (hl : us.length = ws.length) (hi : i < us.length) (hd : us.drop (i + 1) = ws.drop (i + 1)) (hx : dg us i = dg ws i) : us.drop i = ws.drop i := by
  have h1 := dg_some hi
  have h2 := dg_some (show i < ws.length by omega)
  rw [List.drop_eq_getElem_cons hi, List.drop_eq_getElem_cons (show i < ws.length by omega), hd]
  congr 1
  rw [List.getElem?_eq_getElem hi] at h1
  rw [List.getElem?_eq_getElem (show i < ws.length by omega)] at h2
  injection h1 with h1
  injection h2 with h2
  omega
/-! ### How many digits -/
def BL (b N k : Nat) : Prop := N < b ^ k ∧ (k = 0 ∨ b ^ (k - 1) ≤ N)
theorem BL.same {b N k j : Nat} (hb : 1 < b) (h : BL b N k) (h' : BL b N j) : k = j := by
  have go : ∀ {k j}, BL b N k → BL b N j → ¬ k < j := fun {k j} h h' hlt => by
    have h1 : b ^ k ≤ b ^ (j - 1) := Nat.pow_le_pow_right (by omega) (by omega)
    have h2 := h'.2.resolve_left (by omega)
    have h3 := h.1
    omega
  have h1 := go h h'
  have h2 := go h' h
  omega
theorem canon_bl {b : Nat} {ws : List Nat} (h : Below' b ws) (hc : Canon ws) : BL b (num b ws) ws.length :=
  ⟨num_lt h, by
    by_cases h0 : ws.length = 0
    · exact .inl h0
    · exact .inr (canon_ge b hc h0)⟩
end Go.Proofs.YthfbgcjfnpajjaaDoor
