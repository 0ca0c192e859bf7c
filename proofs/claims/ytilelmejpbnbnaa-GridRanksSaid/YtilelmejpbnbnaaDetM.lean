import Derived.Test.YtilelmejpbnbnaaMat
/- Determinants by the first row, over the field of 256 bytes: not 0 just where the rows are independent. -/
namespace Go.Proofs.Ytilelmejpbnbnaa
set_option linter.unusedVariables false

def skip (i c : Nat) : Nat := if c < i then c else c + 1
def minor (A : Nat → Nat → UInt8) (i : Nat) : Nat → Nat → UInt8 := fun r c => A (r + 1) (skip i c)
def dt : Nat → (Nat → Nat → UInt8) → UInt8
  | 0, _ => 1
  | n + 1, A => xs (fun i => gm (A 0 i) (dt n (minor A i))) (n + 1)
theorem dt_succ (n : Nat) (A : Nat → Nat → UInt8) : dt (n + 1) A = xs (fun i => gm (A 0 i) (dt n (minor A i))) (n + 1) := rfl
theorem dt_congr {n : Nat} : ∀ {A B : Nat → Nat → UInt8}, (∀ r, r < n → ∀ c, c < n → A r c = B r c) → dt n A = dt n B := by
  induction n with
  | zero => intros; rfl
  | succ n ih =>
    intro A B h
    rw [dt_succ, dt_succ]
    refine xs_congr fun i hi => ?_
    rw [h 0 (by omega) i hi, ih (A := minor A i) (B := minor B i) fun r hr c hc => h (r + 1) (by omega) (skip i c) (by unfold skip; split <;> omega)]
def setR (A : Nat → Nat → UInt8) (p : Nat) (u : Nat → UInt8) : Nat → Nat → UInt8 := fun r => if r = p then u else A r
theorem minor_set0 (A : Nat → Nat → UInt8) (u : Nat → UInt8) (i : Nat) : minor (setR A 0 u) i = minor A i := by
  funext r c
  simp [minor, setR]
theorem minor_setS (A : Nat → Nat → UInt8) (p : Nat) (u : Nat → UInt8) (i : Nat) : minor (setR A (p + 1) u) i = setR (minor A i) p fun c => u (skip i c) := by
  funext r c
  by_cases h : r = p
  · subst h; simp [minor, setR]
  · simp [minor, setR, h]
theorem dt_lin {n : Nat} : ∀ {p : Nat} {A : Nat → Nat → UInt8} {u v : Nat → UInt8} {c : UInt8}, p < n → dt n (setR A p fun j => u j ^^^ gm c (v j)) = dt n (setR A p u) ^^^ gm c (dt n (setR A p v)) := by
  induction n with
  | zero => intro p A u v c h; omega
  | succ n ih =>
    intro p A u v c h
    rw [dt_succ, dt_succ, dt_succ, ← xs_mul, ← xs_add]
    refine xs_congr fun i hi => ?_
    cases p with
    | zero =>
      rw [minor_set0, minor_set0, minor_set0]
      show gm (u i ^^^ gm c (v i)) _ = gm (u i) _ ^^^ gm c (gm (v i) _)
      rw [gm_xor_left, gm_assoc]
    | succ p =>
      rw [minor_setS, minor_setS, minor_setS]
      show gm (A 0 i) (dt n (setR (minor A i) p fun j => u (skip i j) ^^^ gm c (v (skip i j)))) = gm (A 0 i) _ ^^^ gm c (gm (A 0 i) _)
      rw [ih (by omega), gm_xor_right, gm_left_comm]
theorem dt_zero {n p : Nat} {A : Nat → Nat → UInt8} (h : p < n) : dt n (setR A p fun _ => 0) = 0 := by
  have h1 := dt_lin (A := A) (u := fun _ => 0) (v := fun _ => 0) (c := 1) h
  simp only [gm_one_left, UInt8.xor_self] at h1
  exact h1
/-! ### Two rows -/
theorem xs_skip {f : Nat → UInt8} {n i : Nat} (hi : i < n + 1) : xs (fun j => f (skip i j)) n ^^^ f i = xs f (n + 1) := by
  induction n with
  | zero =>
    have : i = 0 := by omega
    subst this
    rfl
  | succ n ih =>
    by_cases h : i = n + 1
    · subst h
      show _ = xs f (n + 1) ^^^ f (n + 1)
      rw [xs_congr (g := f) fun j hj => by simp only [skip, if_pos hj]]
    · show xs (fun j => f (skip i j)) n ^^^ f (skip i n) ^^^ f i = xs f (n + 1) ^^^ f (n + 1)
      rw [← ih (by omega)]
      have : skip i n = n + 1 := by unfold skip; rw [if_neg (by omega)]
      rw [this, UInt8.xor_assoc, UInt8.xor_assoc, UInt8.xor_comm (f (n + 1))]
theorem xs_sym {h : Nat → Nat → UInt8} (hs : ∀ i k, h i k = h k i) (hd : ∀ i, h i i = 0) (n : Nat) : xs (fun i => xs (h i) n) n = 0 := by
  induction n with
  | zero => rfl
  | succ n ih =>
    show xs (fun i => xs (h i) n ^^^ h i n) n ^^^ (xs (h n) n ^^^ h n n) = 0
    rw [xs_add, ih, hd, xs_congr (g := h n) fun i _ => hs i n]
    simp
def skip2 (i k c : Nat) : Nat := if c < min i k then c else if c + 1 < max i k then c + 1 else c + 2
theorem skip_skip (i j c : Nat) : skip i (skip j c) = skip2 i (skip i j) c := by
  unfold skip2 skip
  (repeat' split) <;> omega
def both (A : Nat → Nat → UInt8) (n i k : Nat) : UInt8 := dt n fun r c => A (r + 2) (skip2 i k c)
theorem both_comm (A : Nat → Nat → UInt8) (n i k : Nat) : both A n i k = both A n k i := by
  unfold both skip2
  rw [Nat.min_comm, Nat.max_comm]
def pair (A : Nat → Nat → UInt8) (n i k : Nat) : UInt8 := if i = k then 0 else gm (gm (A 0 i) (A 1 k)) (both A n i k)
theorem dt_two (n : Nat) (A : Nat → Nat → UInt8) : dt (n + 2) A = xs (fun i => xs (pair A n i) (n + 2)) (n + 2) := by
  rw [dt_succ]
  refine xs_congr fun i hi => ?_
  rw [dt_succ, ← xs_mul]
  have h1 : pair A n i i = 0 := by simp [pair]
  have h2 := xs_skip (f := pair A n i) (n := n + 1) hi
  rw [h1, UInt8.xor_zero] at h2
  rw [← h2]
  refine xs_congr fun j hj => ?_
  have hne : i ≠ skip i j := by unfold skip; split <;> omega
  rw [pair, if_neg hne, gm_assoc]
  have e : minor (minor A i) j = fun r c => A (r + 2) (skip2 i (skip i j) c) := by
    funext r c
    show A (r + 1 + 1) (skip i (skip j c)) = _
    rw [skip_skip]
  rw [e]
  rfl
def swapR (A : Nat → Nat → UInt8) (p : Nat) : Nat → Nat → UInt8 := fun r => if r = p then A (p + 1) else if r = p + 1 then A p else A r
theorem dt_swap {n : Nat} : ∀ {p : Nat} {A : Nat → Nat → UInt8}, p + 1 < n → dt n (swapR A p) = dt n A := by
  induction n with
  | zero => intro p A h; omega
  | succ n ih =>
    intro p A h
    cases p with
    | zero =>
      obtain ⟨m, rfl⟩ : ∃ m, n = m + 1 := ⟨n - 1, by omega⟩
      rw [dt_two, dt_two, xs_swap]
      refine xs_congr fun i _ => xs_congr fun k _ => ?_
      unfold pair
      by_cases e : i = k
      · rw [if_pos e, if_pos e.symm]
      · rw [if_neg e, if_neg (Ne.symm e), both_comm]
        have e1 : both (swapR A 0) m i k = both A m i k := rfl
        rw [e1]
        show gm (gm (A 1 k) (A 0 i)) _ = _
        rw [gm_comm (A 1 k)]
    | succ p =>
      rw [dt_succ, dt_succ]
      refine xs_congr fun i _ => ?_
      have e : minor (swapR A (p + 1)) i = swapR (minor A i) p := by
        funext r c
        unfold minor swapR
        by_cases h1 : r = p
        · subst h1; simp
        · by_cases h2 : r = p + 1
          · subst h2; simp
          · simp [h1, h2]
      rw [e, ih (by omega)]
      rfl
theorem alike01 {n : Nat} {A : Nat → Nat → UInt8} (h : A 0 = A 1) : dt (n + 2) A = 0 := by
  rw [dt_two]
  refine xs_sym (fun i k => ?_) (fun i => by simp [pair]) _
  unfold pair
  by_cases e : i = k
  · rw [if_pos e, if_pos e.symm]
  · rw [if_neg e, if_neg (Ne.symm e), both_comm, h, gm_comm (A 1 i)]
theorem alike0 {n : Nat} : ∀ (q : Nat) {A : Nat → Nat → UInt8}, 0 < q → q < n → A 0 = A q → dt n A = 0 := by
  intro q
  induction q with
  | zero => intro A h; omega
  | succ q ih =>
    intro A _ hq h
    by_cases h0 : q = 0
    · subst h0
      obtain ⟨m, rfl⟩ : ∃ m, n = m + 2 := ⟨n - 2, by omega⟩
      exact alike01 h
    · rw [← dt_swap (p := q) (A := A) hq]
      refine ih (by omega) (by omega) ?_
      have e1 : swapR A q 0 = A 0 := by unfold swapR; rw [if_neg (by omega), if_neg (by omega)]
      have e2 : swapR A q q = A (q + 1) := by unfold swapR; rw [if_pos rfl]
      rw [e1, e2, h]
theorem alike {n : Nat} : ∀ {p q : Nat} {A : Nat → Nat → UInt8}, p < q → q < n → A p = A q → dt n A = 0 := by
  induction n with
  | zero => intro p q A h1 h2; omega
  | succ n ih =>
    intro p q A h1 h2 h
    cases p with
    | zero => exact alike0 q h1 h2 h
    | succ p =>
      obtain ⟨q, rfl⟩ : ∃ m, q = m + 1 := ⟨q - 1, by omega⟩
      rw [dt_succ]
      refine xs_zero fun i _ => ?_
      rw [ih (p := p) (q := q) (A := minor A i) (by omega) (by omega) (by funext c; show A (p + 1) _ = A (q + 1) _; rw [h]), gm_zero_right]
/-- A row put in the place of another one. -/
theorem dt_other {n p k : Nat} {A : Nat → Nat → UInt8} (hp : p < n) (hk : k < n) (hne : k ≠ p) : dt n (setR A p (A k)) = 0 := by
  have e1 : setR A p (A k) p = A k := by unfold setR; rw [if_pos rfl]
  have e2 : setR A p (A k) k = A k := by unfold setR; rw [if_neg hne]
  rcases Nat.lt_or_gt_of_ne hne with h | h
  · exact alike h hp (e2.trans e1.symm)
  · exact alike h hk (e1.trans e2.symm)
/-- Where the determinant isn't 0, nothing but 0 combines the rows to 0. -/
theorem dt_free {n : Nat} {A : Nat → Nat → UInt8} (h : dt n A ≠ 0) {c : Nat → UInt8} (hc : ∀ j, j < n → xs (fun k => gm (c k) (A k j)) n = 0) : ∀ p, p < n → c p = 0 := by
  intro p hp
  have key : ∀ m, m ≤ n → dt n (setR A p fun j => xs (fun k => gm (c k) (A k j)) m) = if p < m then gm (c p) (dt n A) else 0 := by
    intro m
    induction m with
    | zero => intro _; rw [if_neg (by omega)]; exact dt_zero hp
    | succ m ih =>
      intro hm
      have e : (fun j => xs (fun k => gm (c k) (A k j)) (m + 1)) = fun j => xs (fun k => gm (c k) (A k j)) m ^^^ gm (c m) (A m j) := rfl
      rw [e, dt_lin hp, ih (by omega)]
      by_cases h1 : m = p
      · subst h1
        have e2 : setR A m (A m) = A := by
          funext r
          unfold setR
          by_cases h2 : r = m
          · rw [if_pos h2, h2]
          · rw [if_neg h2]
        rw [e2, if_neg (by omega), if_pos (by omega), UInt8.zero_xor]
      · rw [dt_other hp (by omega) h1, gm_zero_right, UInt8.xor_zero]
        by_cases h2 : p < m
        · rw [if_pos h2, if_pos (by omega)]
        · rw [if_neg h2, if_neg (by omega)]
  have h1 := key n (Nat.le_refl _)
  rw [if_pos hp] at h1
  have h2 : dt n (setR A p fun j => xs (fun k => gm (c k) (A k j)) n) = dt n (setR A p fun _ => 0) := dt_congr fun r _ j hj => by
    unfold setR
    by_cases e : r = p
    · rw [if_pos e, if_pos e]; exact hc j hj
    · rw [if_neg e, if_neg e]
  rw [h2, dt_zero hp] at h1
  rcases gm_eq_zero h1.symm with h3 | h3
  · exact h3
  · exact absurd h3 h
/-! ### Independent rows -/
theorem free_rk : ∀ {L : List Pt}, (∀ a ∈ L, a.d = fun _ => 0) → (∀ c, comb c L = Pt.zero → ∀ k, k < L.length → c k = 0) → Rk L L.length := by
  intro L
  induction L with
  | nil => intro _ _; exact Rk.nil
  | cons a L ih =>
    intro hd hf
    have hd' : ∀ b ∈ L, b.d = fun _ => 0 := fun b hb => hd b (List.mem_cons_of_mem _ hb)
    have h1 : Rk L L.length := ih hd' fun c hc k hk => by
      refine hf (fun | 0 => 0 | i + 1 => c i) ?_ (k + 1) (by simp; omega)
      rw [comb_cons]
      show Pt.less (comb c L) 0 a = _
      rw [less_none, hc]
    rcases Rk.cons hd' (hd a (List.mem_cons_self ..)) h1 with ⟨h2, _⟩ | ⟨_, h2⟩
    · obtain ⟨c, hc⟩ := span_iff.1 h2
      have h3 := hf (fun | 0 => 1 | i + 1 => c i) (by
        rw [comb_cons]
        show Pt.less (comb c L) 1 a = _
        rw [← hc, less_self]) 0 (by simp)
      exact absurd h3 one_ne
    · exact h2
theorem rk_free : ∀ {L : List Pt}, (∀ a ∈ L, a.d = fun _ => 0) → Rk L L.length → ∀ c, comb c L = Pt.zero → ∀ k, k < L.length → c k = 0 := by
  intro L
  induction L with
  | nil => intro _ _ c _ k hk; simp at hk
  | cons a L ih =>
    intro hd hr c hc k hk
    have hd' : ∀ b ∈ L, b.d = fun _ => 0 := fun b hb => hd b (List.mem_cons_of_mem _ hb)
    obtain ⟨r, hle, h1⟩ := Rk.exists hd'
    rcases Rk.cons hd' (hd a (List.mem_cons_self ..)) h1 with ⟨_, h2⟩ | ⟨h3, h2⟩
    · have := hr.unique h2
      simp at this
      omega
    · have hrl := hr.unique h2
      have hrl : r = L.length := by simp at hrl; omega
      subst hrl
      rw [comb_cons] at hc
      have h0 : c 0 = 0 := by
        refine Classical.byContradiction fun hne => h3 ?_
        refine scl_out (Span.sub _) hne ?_
        have e : scl (c 0) a = comb (fun k => c (k + 1)) L := by
          have h4 := congrArg (fun m => Pt.less m (c 0) a) hc
          simp only [less_back2] at h4
          exact h4.symm
        rw [e]
        exact span_iff.2 ⟨_, rfl⟩
      rw [h0, less_none] at hc
      cases k with
      | zero => exact h0
      | succ k => exact ih hd' h1 _ hc k (by simpa using hk)
theorem comb_rows {A : Nat → Nat → UInt8} {m n : Nat} {c : Nat → UInt8} : comb c (rowsP A m n) = Pt.zero ↔ ∀ j, j < n → xs (fun k => gm (c k) (A k j)) m = 0 := by
  have hv : ∀ j, (comb c (rowsP A m n)).v j = if j < n then xs (fun k => gm (c k) (A k j)) m else 0 := by
    intro j
    show xs (fun k => gm (c k) ((at0 (rowsP A m n) k).v j)) (rowsP A m n).length = _
    rw [rowsP_len]
    by_cases hj : j < n
    · rw [if_pos hj]
      refine xs_congr fun k hk => ?_
      rw [rowsP_at hk]
      simp only [bare, if_pos hj]
    · rw [if_neg hj]
      refine xs_zero fun k hk => ?_
      rw [rowsP_at hk]
      simp only [bare, if_neg hj, gm_zero_right]
  constructor
  · intro h j hj
    have := hv j
    rw [h, if_pos hj] at this
    exact this.symm
  · intro h
    refine Pt.eqI (fun j => ?_) (fun j => ?_)
    · rw [hv]
      by_cases hj : j < n
      · rw [if_pos hj, h j hj]; rfl
      · rw [if_neg hj]; rfl
    · have := bare_span rowsP_bare (span_iff.2 ⟨c, rfl⟩ : Span (rowsP A m n) (comb c (rowsP A m n)))
      rw [this]; rfl
theorem dt_rk {n : Nat} {A : Nat → Nat → UInt8} (h : dt n A ≠ 0) : Rk (rowsP A n n) n := by
  have h1 := free_rk (L := rowsP A n n) rowsP_bare fun c hc k hk => by
    rw [rowsP_len] at hk
    exact dt_free h (comb_rows.1 hc) k hk
  rwa [rowsP_len] at h1
theorem unit_rk (n : Nat) : Rk (rowsP unitM n n) n := by
  have h1 := free_rk (L := rowsP unitM n n) rowsP_bare fun c hc k hk => by
    rw [rowsP_len] at hk
    have h2 := comb_rows.1 hc k hk
    rw [xs_single hk fun i _ hne => by rw [unitM, if_neg hne, gm_zero_right], unitM, if_pos rfl, gm_one_right] at h2
    exact h2
  rwa [rowsP_len] at h1
theorem rk_dt {n : Nat} : ∀ {A : Nat → Nat → UInt8}, Rk (rowsP A n n) n → dt n A ≠ 0 := by
  induction n with
  | zero => intro A _; exact one_ne
  | succ n ih =>
    intro A hr h0
    -- each cofactor is 0
    have hS : ∀ m, Span (rowsP A (n + 1) (n + 1)) m → xs (fun i => gm (m.v i) (dt n (minor A i))) (n + 1) = 0 := by
      intro m hm
      refine Span.least (S := fun m => xs (fun i => gm (m.v i) (dt n (minor A i))) (n + 1) = 0) ⟨xs_zero fun i _ => gm_zero_left _, fun m c o h1 h2 => ?_⟩ (fun a ha => ?_) hm
      · show xs (fun i => gm (m.v i ^^^ gm c (o.v i)) (dt n (minor A i))) (n + 1) = 0
        rw [xs_congr (g := fun i => gm (m.v i) (dt n (minor A i)) ^^^ gm c (gm (o.v i) (dt n (minor A i)))) fun i _ => by rw [gm_xor_left, gm_assoc], xs_add, xs_mul, h1, h2, gm_zero_right, UInt8.xor_self]
      · obtain ⟨k, hk, rfl⟩ := rowsP_mem.1 ha
        have e : xs (fun i => gm ((bare fun j => if j < n + 1 then A k j else 0).v i) (dt n (minor A i))) (n + 1) = dt (n + 1) (setR A 0 (A k)) := by
          rw [dt_succ]
          refine xs_congr fun i hi => ?_
          rw [minor_set0]
          show gm (if i < n + 1 then A k i else 0) _ = gm (A k i) _
          rw [if_pos hi]
        show xs (fun i => gm ((bare fun j => if j < n + 1 then A k j else 0).v i) (dt n (minor A i))) (n + 1) = 0
        rw [e]
        by_cases hk0 : k = 0
        · subst hk0
          have e2 : setR A 0 (A 0) = A := by
            funext r
            unfold setR
            by_cases h2 : r = 0
            · rw [if_pos h2, h2]
            · rw [if_neg h2]
          rw [e2, h0]
        · exact dt_other (by omega) hk hk0
    have hcof : ∀ i, i < n + 1 → dt n (minor A i) = 0 := by
      intro i hi
      obtain ⟨m, hm, hv⟩ := Rk.all rowsP_wide hr (fun j => if j = i then 1 else 0) fun j hj => if_neg (by omega)
      have h1 := hS m hm
      rw [hv] at h1
      have h2 : xs (fun k => gm (if k = i then 1 else 0) (dt n (minor A k))) (n + 1) = dt n (minor A i) := by
        rw [xs_single hi fun k _ hne => by rw [if_neg hne, gm_zero_left], if_pos rfl, gm_one_left]
      exact h2.symm.trans h1
    -- so each unit is a combination of the rows from the second one on
    have hfree : ∀ c : Nat → UInt8, (∀ j, j < n + 1 → xs (fun k => gm (c k) (A (k + 1) j)) n = 0) → ∀ k, k < n → c k = 0 := by
      intro c hc k hk
      have hr' : Rk (rowsP A (n + 1) (n + 1)) (rowsP A (n + 1) (n + 1)).length := by rw [rowsP_len]; exact hr
      refine rk_free rowsP_bare hr' (fun | 0 => 0 | i + 1 => c i) (comb_rows.2 fun j hj => ?_) (k + 1) (by rw [rowsP_len]; omega)
      rw [xs_head]
      show gm 0 _ ^^^ xs (fun i => gm (c i) (A (i + 1) j)) n = 0
      rw [hc j hj, gm_zero_left, UInt8.xor_self]
    have hunit : ∀ a ∈ rowsP unitM (n + 1) (n + 1), ∃ m, Span (rowsP (fun r c => A (r + 1) c) n (n + 1)) m ∧ m.v = a.v := by
      intro a ha
      obtain ⟨i, hi, rfl⟩ := rowsP_mem.1 ha
      have hno : ¬ Rk (rowsP (minor A i) n n) n := fun h1 => ih h1 (hcof i hi)
      have hex : ∃ c : Nat → UInt8, (∀ j, j < n → xs (fun k => gm (c k) (minor A i k j)) n = 0) ∧ ∃ k, k < n ∧ c k ≠ 0 := by
        refine Classical.byContradiction fun hn => hno ?_
        have h1 := free_rk (L := rowsP (minor A i) n n) rowsP_bare fun c hc k hk => by
          rw [rowsP_len] at hk
          exact Classical.byContradiction fun hne => hn ⟨c, comb_rows.1 hc, k, hk, hne⟩
        rwa [rowsP_len] at h1
      obtain ⟨c, hc, k, hk, hne⟩ := hex
      have hx : xs (fun k => gm (c k) (A (k + 1) i)) n ≠ 0 := fun hx => hne (hfree c (fun j hj => by
        by_cases hji : j = i
        · rw [hji]; exact hx
        · by_cases hlt : j < i
          · have := hc j (by omega)
            simpa [minor, skip, hlt] using this
          · have := hc (j - 1) (by omega)
            simp only [minor, skip] at this
            rw [if_neg (by omega), show j - 1 + 1 = j by omega] at this
            exact this) k hk)
      refine ⟨scl (ginv (xs (fun k => gm (c k) (A (k + 1) i)) n)) (comb c (rowsP (fun r c => A (r + 1) c) n (n + 1))), scl_in (Span.sub _) _ (span_iff.2 ⟨c, rfl⟩), ?_⟩
      have hv : ∀ j, j < n + 1 → (comb c (rowsP (fun r c => A (r + 1) c) n (n + 1))).v j = xs (fun k => gm (c k) (A (k + 1) j)) n := by
        intro j hj
        show xs (fun k => gm (c k) ((at0 (rowsP (fun r c => A (r + 1) c) n (n + 1)) k).v j)) (rowsP (fun r c => A (r + 1) c) n (n + 1)).length = _
        rw [rowsP_len]
        refine xs_congr fun k hk => ?_
        rw [rowsP_at hk]
        simp only [bare, if_pos hj]
      have hw := wide_span rowsP_wide (span_iff.2 ⟨c, rfl⟩ : Span (rowsP (fun r c => A (r + 1) c) n (n + 1)) (comb c (rowsP (fun r c => A (r + 1) c) n (n + 1))))
      funext j
      rw [scl_v]
      show _ = if j < n + 1 then unitM i j else 0
      by_cases hj : j < n + 1
      · rw [if_pos hj, hv j hj]
        unfold unitM
        by_cases hji : j = i
        · subst hji
          rw [if_pos rfl, gm_comm, gm_ginv hx]
        · rw [if_neg (Ne.symm hji)]
          have : xs (fun k => gm (c k) (A (k + 1) j)) n = 0 := by
            by_cases hlt : j < i
            · have := hc j (by omega)
              simpa [minor, skip, hlt] using this
            · have := hc (j - 1) (by omega)
              simp only [minor, skip] at this
              rw [if_neg (by omega), show j - 1 + 1 = j by omega] at this
              exact this
          rw [this, gm_zero_right]
      · rw [if_neg hj, hw j (by omega), gm_zero_right]
    obtain ⟨s, hs1, hs2⟩ := Rk.exists (L := rowsP (fun r c => A (r + 1) c) n (n + 1)) rowsP_bare
    have h9 := (unit_rk (n + 1)).le hs2 hunit
    rw [rowsP_len] at hs1
    omega
theorem det_iff {n r : Nat} {A : Nat → Nat → UInt8} (h : Rk (rowsP A n n) r) : r = n ↔ dt n A ≠ 0 :=
  ⟨fun e => rk_dt (e ▸ h), fun e => h.unique (dt_rk e)⟩
end Go.Proofs.Ytilelmejpbnbnaa
