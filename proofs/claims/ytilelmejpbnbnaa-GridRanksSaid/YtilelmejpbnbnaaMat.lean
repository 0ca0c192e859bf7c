import Derived.Test.YtilelmejpbnbnaaSpan
/- Sums, combinations, ranks of grids. Plain facts; nothing of the program. -/
namespace Go.Proofs.Ytilelmejpbnbnaa
set_option linter.unusedVariables false
open Pt (less)

/-! ### Sums -/
def xs (f : Nat → UInt8) : Nat → UInt8
  | 0 => 0
  | n + 1 => xs f n ^^^ f n
theorem xs_congr {f g : Nat → UInt8} {n : Nat} (h : ∀ i, i < n → f i = g i) : xs f n = xs g n := by
  induction n with
  | zero => rfl
  | succ n ih => rw [xs, xs, ih fun i hi => h i (by omega), h n (by omega)]
theorem xs_zero {f : Nat → UInt8} {n : Nat} (h : ∀ i, i < n → f i = 0) : xs f n = 0 := by
  induction n with
  | zero => rfl
  | succ n ih => rw [xs, ih fun i hi => h i (by omega), h n (by omega)]; rfl
theorem xs_add (f g : Nat → UInt8) (n : Nat) : xs (fun i => f i ^^^ g i) n = xs f n ^^^ xs g n := by
  induction n with
  | zero => simp [xs]
  | succ n ih => simp only [xs, ih]; ac_rfl
theorem xs_mul (c : UInt8) (f : Nat → UInt8) (n : Nat) : xs (fun i => gm c (f i)) n = gm c (xs f n) := by
  induction n with
  | zero => exact (gm_zero_right c).symm
  | succ n ih => rw [xs, ih, xs, gm_xor_right]
theorem xs_mul_right (c : UInt8) (f : Nat → UInt8) (n : Nat) : xs (fun i => gm (f i) c) n = gm (xs f n) c := by
  rw [gm_comm, ← xs_mul]
  exact xs_congr fun i _ => gm_comm _ _
theorem xs_swap (f : Nat → Nat → UInt8) (m n : Nat) : xs (fun i => xs (fun j => f i j) n) m = xs (fun j => xs (fun i => f i j) m) n := by
  induction m with
  | zero => exact (xs_zero fun _ _ => rfl).symm
  | succ m ih =>
    rw [xs, ih]
    rw [← xs_add]
    rfl
theorem xs_single {f : Nat → UInt8} {n k : Nat} (hk : k < n) (h : ∀ i, i < n → i ≠ k → f i = 0) : xs f n = f k := by
  induction n with
  | zero => omega
  | succ n ih =>
    rw [xs]
    by_cases hkn : k = n
    · subst hkn
      rw [xs_zero fun i hi => h i (by omega) (by omega), UInt8.zero_xor]
    · rw [ih (by omega) fun i hi hne => h i (by omega) hne, h n (by omega) (by omega), UInt8.xor_zero]
theorem xs_head (f : Nat → UInt8) (n : Nat) : xs f (n + 1) = f 0 ^^^ xs (fun i => f (i + 1)) n := by
  induction n with
  | zero => simp [xs]
  | succ n ih => rw [xs, ih, xs]; ac_rfl

/-! ### What a span's members are -/
/-- A vector that carries nothing. -/
def bare (v : V) : Pt := ⟨v, fun _ => 0⟩
def at0 (L : List Pt) (k : Nat) : Pt := L[k]?.getD Pt.zero
def comb (c : V) (L : List Pt) : Pt := ⟨fun i => xs (fun k => gm (c k) ((at0 L k).v i)) L.length, fun i => xs (fun k => gm (c k) ((at0 L k).d i)) L.length⟩
theorem comb_cons (c : V) (a : Pt) (L : List Pt) : comb c (a :: L) = less (comb (fun k => c (k + 1)) L) (c 0) a := by
  refine Pt.eqI (fun i => ?_) (fun i => ?_) <;> simp only [comb, less, List.length_cons, xs_head] <;> simp [at0] <;> exact UInt8.xor_comm _ _
theorem span_iff {L : List Pt} {m : Pt} : Span L m ↔ ∃ c, m = comb c L := by
  induction L generalizing m with
  | nil =>
    constructor
    · intro h; exact ⟨fun _ => 0, h⟩
    · rintro ⟨c, rfl⟩; rfl
  | cons a L ih =>
    constructor
    · rintro ⟨c, hc⟩
      obtain ⟨d, hd⟩ := ih.1 hc
      refine ⟨fun k => match k with | 0 => c | k + 1 => d k, ?_⟩
      rw [comb_cons]
      simp only
      rw [← hd, less_back2]
    · rintro ⟨c, rfl⟩
      refine ⟨c 0, ih.2 ⟨fun k => c (k + 1), ?_⟩⟩
      rw [comb_cons, less_back2]
/-- What no vector carries anything, none of their span carries. -/
theorem bare_span {L : List Pt} (h : ∀ a ∈ L, a.d = fun _ => 0) {m : Pt} (hm : Span L m) : m.d = fun _ => 0 := by
  refine Span.least (S := fun m => m.d = fun _ => 0) ⟨rfl, fun m c o h1 h2 => ?_⟩ h hm
  funext i
  show m.d i ^^^ gm c (o.d i) = 0
  rw [h1, h2, gm_zero_right]; exact UInt8.xor_zero
theorem wide_span {L : List Pt} {w : Nat} (h : ∀ a ∈ L, ∀ i, w ≤ i → a.v i = 0) {m : Pt} (hm : Span L m) : ∀ i, w ≤ i → m.v i = 0 := by
  refine Span.least (S := fun m => ∀ i, w ≤ i → m.v i = 0) ⟨fun _ _ => rfl, fun m c o h1 h2 i hi => ?_⟩ h hm
  show m.v i ^^^ gm c (o.v i) = 0
  rw [h1 i hi, h2 i hi, gm_zero_right]; rfl

/-! ### Ranks -/
/-- So many rows lead, and have the same span. -/
def Rk (L : List Pt) (r : Nat) : Prop := ∃ E, Ech E ∧ E.length = r ∧ ∀ m, Span (pts E) m ↔ Span L m
theorem pts_mem {E : List (Nat × Pt)} {e : Nat × Pt} (h : e ∈ E) : Span (pts E) e.2 := Span.mem (List.mem_map_of_mem h)
/-- Of fewer vectors, the rank is no greater. -/
theorem Rk.le {L M : List Pt} {r s : Nat} (h1 : Rk L r) (h2 : Rk M s) (h : ∀ a ∈ L, ∃ m, Span M m ∧ m.v = a.v) : r ≤ s := by
  obtain ⟨E, e1, rfl, e3⟩ := h1
  obtain ⟨F, f1, rfl, f3⟩ := h2
  refine e1.le f1 fun e he => ?_
  have h4 := (e3 _).1 (pts_mem he)
  suffices ∀ {x : Pt}, Span L x → ∃ m, Span M m ∧ m.v = x.v by
    obtain ⟨m, h5, h6⟩ := this h4
    exact ⟨m, (f3 _).2 h5, h6⟩
  intro x hx
  refine Span.least (S := fun x => ∃ m, Span M m ∧ m.v = x.v) ⟨⟨Pt.zero, Span.zero _, rfl⟩, ?_⟩ h hx
  rintro m c o ⟨m', a1, a2⟩ ⟨o', b1, b2⟩
  refine ⟨less m' c o', Span.less c a1 b1, ?_⟩
  funext i
  show m'.v i ^^^ gm c (o'.v i) = m.v i ^^^ gm c (o.v i)
  rw [a2, b2]
theorem Rk.unique {L : List Pt} {r s : Nat} (h1 : Rk L r) (h2 : Rk L s) : r = s :=
  Nat.le_antisymm (h1.le h2 fun a ha => ⟨a, Span.mem ha, rfl⟩) (h2.le h1 fun a ha => ⟨a, Span.mem ha, rfl⟩)
theorem Rk.congr {L M : List Pt} {r : Nat} (h1 : Rk L r) (h : ∀ m, Span L m ↔ Span M m) : Rk M r := by
  obtain ⟨E, e1, e2, e3⟩ := h1
  exact ⟨E, e1, e2, fun m => (e3 m).trans (h m)⟩
theorem Rk.nil : Rk [] 0 := ⟨[], Ech.nil, rfl, fun m => Iff.rfl⟩
/-- What is left of a vector behind rows that lead, in any order of theirs. -/
theorem Ech.left {E : List (Nat × Pt)} (h : Ech E) (m : Pt) : ∃ x, (∀ i ∈ leads E, x.v i = 0) ∧ (∀ S : Pt → Prop, Sub S → (∀ e ∈ E, S e.2) → (S x ↔ S m)) := by
  -- the rows by rising places
  let F := E.mergeSort fun a b => decide (a.1 ≤ b.1)
  have hp : F.Perm E := List.mergeSort_perm _ _
  have hF : Ech F := h.perm hp.symm
  have hs : F.Pairwise fun a b => a.1 ≤ b.1 := by
    have := List.pairwise_mergeSort (le := fun a b : Nat × Pt => decide (a.1 ≤ b.1)) (fun a b c h1 h2 => by simp at *; omega) (fun a b => by simp; omega) E
    refine this.imp ?_
    intro a b h; simpa using h
  have hr : Rising F := by
    have h1 : (leads F).Pairwise (· ≤ ·) := List.pairwise_map.2 hs
    have h2 := hF.2
    exact (h1.and h2).imp fun {a b} h => Nat.lt_of_le_of_ne h.1 h.2
  refine ⟨clr F m, fun i hi => hF.clr_zero hr i ?_, fun S hS hm => ?_⟩
  · obtain ⟨e, he, rfl⟩ := mem_leads.1 hi
    exact mem_leads.2 ⟨e, hp.mem_iff.2 he, rfl⟩
  · have hm' : ∀ e ∈ F, S e.2 := fun e he => hm e (hp.mem_iff.1 he)
    exact ⟨clr_out hS hm', clr_in hS hm'⟩
/-- One vector more: the rank is the same, or one more. -/
theorem Rk.cons {L : List Pt} (hL : ∀ a ∈ L, a.d = fun _ => 0) {a : Pt} (ha : a.d = fun _ => 0) {r : Nat} (h : Rk L r) : (Span L a ∧ Rk (a :: L) r) ∨ (¬ Span L a ∧ Rk (a :: L) (r + 1)) := by
  obtain ⟨E, e1, rfl, e3⟩ := h
  obtain ⟨x, x1, x2⟩ := e1.left a
  have hx : Span (pts E) x ↔ Span (pts E) a := x2 _ (Span.sub _) fun e he => pts_mem he
  have hxd : x.d = fun _ => 0 := (x2 (fun m => m.d = fun _ => 0) ⟨rfl, fun m c o h1 h2 => by funext i; show m.d i ^^^ gm c (o.d i) = 0; rw [h1, h2, gm_zero_right]; exact UInt8.xor_zero⟩ (fun e he => bare_span hL ((e3 _).1 (pts_mem he)))).2 ha
  by_cases hz : ∀ i, x.v i = 0
  · left
    have hx0 : x = Pt.zero := by
      refine Pt.eqI (fun i => ?_) (fun i => ?_)
      · exact hz i
      · rw [hxd]; rfl
    have hs : Span (pts E) a := hx.1 (by rw [hx0]; exact Span.zero _)
    refine ⟨(e3 _).1 hs, E, e1, rfl, fun m => ?_⟩
    rw [e3]
    constructor
    · exact Span.mono fun b hb => Span.mem (List.mem_cons_of_mem _ hb)
    · refine Span.mono fun b hb => ?_
      rcases List.mem_cons.1 hb with rfl | hb
      · exact (e3 _).1 hs
      · exact Span.mem hb
  · right
    obtain ⟨k, hk⟩ : ∃ k, x.v k ≠ 0 := Classical.byContradiction fun hn => hz fun i => Classical.byContradiction fun h => hn ⟨i, h⟩
    obtain ⟨i, _, i1, i2⟩ := exists_lead hk
    have hi : i ∉ leads E := fun h => i1 (x1 i h)
    refine ⟨fun hs => hi (e1.lead (hx.2 ((e3 _).2 hs)) i1 i2), (i, scl (ginv (x.v i)) x) :: E, e1.cons hi ?_ ?_, rfl, fun m => ?_⟩
    · rw [scl_v, gm_comm, gm_ginv i1]
    · intro j hj; rw [scl_v, i2 j hj, gm_zero_right]
    · have h1 : ∀ (S : Pt → Prop), Sub S → (∀ e ∈ E, S e.2) → (S (scl (ginv (x.v i)) x) ↔ S a) := fun S hS hm => by
        rw [← x2 S hS hm]
        exact ⟨scl_out hS (ginv_ne i1), scl_in hS _⟩
      constructor
      · refine Span.mono fun b hb => ?_
        have hm : ∀ e ∈ E, Span (a :: L) e.2 := fun e he => Span.mono (fun b hb => Span.mem (List.mem_cons_of_mem _ hb)) ((e3 _).1 (pts_mem he))
        rcases List.mem_cons.1 hb with rfl | hb
        · exact (h1 _ (Span.sub _) hm).2 (Span.mem (List.mem_cons_self ..))
        · obtain ⟨e, he, rfl⟩ := List.mem_map.1 hb
          exact hm e he
      · refine Span.mono fun b hb => ?_
        have hm : ∀ e ∈ E, Span (pts ((i, scl (ginv (x.v i)) x) :: E)) e.2 := fun e he => Span.mem (List.mem_cons_of_mem _ (List.mem_map_of_mem he))
        rcases List.mem_cons.1 hb with rfl | hb
        · exact (h1 _ (Span.sub _) hm).1 (Span.mem (List.mem_cons_self ..))
        · have := (e3 _).2 (Span.mem hb)
          exact Span.least (Span.sub _) (fun c hc => by obtain ⟨e, he, rfl⟩ := List.mem_map.1 hc; exact hm e he) this
theorem Rk.exists {L : List Pt} (hL : ∀ a ∈ L, a.d = fun _ => 0) : ∃ r, r ≤ L.length ∧ Rk L r := by
  induction L with
  | nil => exact ⟨0, Nat.le_refl _, Rk.nil⟩
  | cons a L ih =>
    have hL' : ∀ b ∈ L, b.d = fun _ => 0 := fun b hb => hL b (List.mem_cons_of_mem _ hb)
    obtain ⟨r, h1, h2⟩ := ih hL'
    rcases h2.cons hL' (hL a (List.mem_cons_self ..)) with ⟨_, h3⟩ | ⟨_, h3⟩
    · exact ⟨r, by simp; omega, h3⟩
    · exact ⟨r + 1, by simp; omega, h3⟩
theorem Rk.le_len {L : List Pt} (hL : ∀ a ∈ L, a.d = fun _ => 0) {r : Nat} (h : Rk L r) : r ≤ L.length := by
  obtain ⟨s, h1, h2⟩ := Rk.exists hL
  rwa [h.unique h2]
theorem Rk.le_wide {L : List Pt} {w r : Nat} (hw : ∀ a ∈ L, ∀ i, w ≤ i → a.v i = 0) (h : Rk L r) : r ≤ w := by
  obtain ⟨E, e1, rfl, e3⟩ := h
  refine e1.len_le fun i hi => ?_
  obtain ⟨e, he, rfl⟩ := mem_leads.1 hi
  refine Nat.lt_of_not_le fun hle => ?_
  have := wide_span hw ((e3 _).1 (pts_mem he)) e.1 hle
  rw [(e1.1 e he).1] at this
  exact one_ne this
/-- Where the rank is full, the span has all vectors of that width. -/
theorem Ech.all {E : List (Nat × Pt)} (h : Ech E) {w : Nat} (hf : ∀ i, i < w → i ∈ leads E) (hw : ∀ e ∈ E, ∀ i, w ≤ i → e.2.v i = 0) (v : V) (hv : ∀ i, w ≤ i → v i = 0) : ∃ m, Span (pts E) m ∧ m.v = v := by
  suffices ∀ k (v : V), (∀ i, i < w - k → v i = 0) → (∀ i, w ≤ i → v i = 0) → ∃ m, Span (pts E) m ∧ m.v = v from this w v (fun i hi => by omega) hv
  intro k
  induction k with
  | zero =>
    intro v h1 h2
    refine ⟨Pt.zero, Span.zero _, ?_⟩
    funext i
    by_cases hi : i < w
    · exact (h1 i (by omega)).symm
    · exact (h2 i (by omega)).symm
  | succ k ih =>
    intro v h1 h2
    by_cases hk : k < w
    · obtain ⟨e, he, hei⟩ := mem_leads.1 (hf (w - (k + 1)) (by omega))
      obtain ⟨g1, g2⟩ := h.1 e he
      have z1 : ∀ i, i < w - k → (fun i => v i ^^^ gm (v e.1) (e.2.v i)) i = 0 := by
        intro i hi
        show v i ^^^ gm (v e.1) (e.2.v i) = 0
        by_cases hie : i = e.1
        · rw [hie, g1, gm_one_right, UInt8.xor_self]
        · rw [h1 i (by omega), g2 i (by omega), gm_zero_right]; rfl
      have z2 : ∀ i, w ≤ i → (fun i => v i ^^^ gm (v e.1) (e.2.v i)) i = 0 := by
        intro i hi
        show v i ^^^ gm (v e.1) (e.2.v i) = 0
        rw [h2 i hi, hw e he i hi, gm_zero_right]; rfl
      obtain ⟨m, m1, m2⟩ := ih _ z1 z2
      refine ⟨less m (v e.1) e.2, Span.less _ m1 (pts_mem he), ?_⟩
      funext i
      show m.v i ^^^ gm (v e.1) (e.2.v i) = v i
      rw [m2]
      exact xor_cancel _ _
    · exact ih v (fun i hi => by omega) h2
theorem full_leads {l : List Nat} (hd : l.Nodup) {w : Nat} (hw : ∀ i ∈ l, i < w) (hl : l.length = w) : ∀ i, i < w → i ∈ l := by
  intro i hi
  refine Classical.byContradiction fun hn => ?_
  have h1 : (i :: l).Nodup := List.nodup_cons.2 ⟨hn, hd⟩
  have h2 := List.Nodup.length_le_of_subset (l₂ := List.range w) h1 (fun j hj => by
    rcases List.mem_cons.1 hj with rfl | hj
    · exact List.mem_range.2 hi
    · exact List.mem_range.2 (hw j hj))
  simp at h2
  omega
theorem Rk.all {L : List Pt} {w : Nat} (hw : ∀ a ∈ L, ∀ i, w ≤ i → a.v i = 0) (h : Rk L w) (v : V) (hv : ∀ i, w ≤ i → v i = 0) : ∃ m, Span L m ∧ m.v = v := by
  obtain ⟨E, e1, e2, e3⟩ := h
  have hwE : ∀ e ∈ E, ∀ i, w ≤ i → e.2.v i = 0 := fun e he => wide_span hw ((e3 _).1 (pts_mem he))
  have hlt : ∀ i ∈ leads E, i < w := fun i hi => by
    obtain ⟨e, he, rfl⟩ := mem_leads.1 hi
    refine Nat.lt_of_not_le fun hle => ?_
    have := hwE e he e.1 hle
    rw [(e1.1 e he).1] at this
    exact one_ne this
  obtain ⟨m, m1, m2⟩ := e1.all (full_leads e1.2 hlt (by simpa [leads] using e2)) hwE v hv
  exact ⟨m, (e3 _).1 m1, m2⟩

/-! ### Grids as functions: rows, columns, products -/
/-- Row by row: m rows, n wide. -/
def rowsP (A : Nat → Nat → UInt8) (m n : Nat) : List Pt := (List.range m).map fun i => bare fun j => if j < n then A i j else 0
theorem rowsP_mem {A : Nat → Nat → UInt8} {m n : Nat} {a : Pt} : a ∈ rowsP A m n ↔ ∃ i, i < m ∧ a = bare fun j => if j < n then A i j else 0 := by
  simp only [rowsP, List.mem_map, List.mem_range]
  exact ⟨fun ⟨i, h1, h2⟩ => ⟨i, h1, h2.symm⟩, fun ⟨i, h1, h2⟩ => ⟨i, h1, h2.symm⟩⟩
theorem rowsP_bare {A : Nat → Nat → UInt8} {m n : Nat} : ∀ a ∈ rowsP A m n, a.d = fun _ => 0 := fun a ha => by
  obtain ⟨i, _, rfl⟩ := rowsP_mem.1 ha; rfl
theorem rowsP_wide {A : Nat → Nat → UInt8} {m n : Nat} : ∀ a ∈ rowsP A m n, ∀ i, n ≤ i → a.v i = 0 := fun a ha i hi => by
  obtain ⟨k, _, rfl⟩ := rowsP_mem.1 ha
  show (if i < n then A k i else 0) = 0
  rw [if_neg (by omega)]
theorem rowsP_len (A : Nat → Nat → UInt8) (m n : Nat) : (rowsP A m n).length = m := by simp [rowsP]
theorem rowsP_at {A : Nat → Nat → UInt8} {m n k : Nat} (h : k < m) : at0 (rowsP A m n) k = bare fun j => if j < n then A k j else 0 := by
  simp [at0, rowsP, h]
/-- The rank of the columns is no greater than that of the rows. -/
theorem cols_le {A : Nat → Nat → UInt8} {m n r s : Nat} (hr : Rk (rowsP A m n) r) (hs : Rk (rowsP (fun j i => A i j) n m) s) : s ≤ r := by
  obtain ⟨E, e1, e2, e3⟩ := hr
  -- each row is a combination of r rows
  have hc : ∀ i, ∃ c : V, i < m → (bare fun j => if j < n then A i j else 0) = comb c (pts E) := by
    intro i
    by_cases hi : i < m
    · obtain ⟨c, hc⟩ := span_iff.1 ((e3 _).2 (Span.mem (rowsP_mem.2 ⟨i, hi, rfl⟩)))
      exact ⟨c, fun _ => hc⟩
    · exact ⟨fun _ => 0, fun h => absurd h hi⟩
  have hC : ∃ C : Nat → V, ∀ i, i < m → (bare fun j => if j < n then A i j else 0) = comb (C i) (pts E) := ⟨fun i => (hc i).choose, fun i => (hc i).choose_spec⟩
  obtain ⟨C, hC⟩ := hC
  let G := rowsP (fun k i => C i k) r m
  obtain ⟨t, t1, t2⟩ := Rk.exists (L := G) rowsP_bare
  have hle : t ≤ r := by rw [rowsP_len] at t1; exact t1
  refine Nat.le_trans (hs.le t2 fun a ha => ?_) hle
  obtain ⟨j, hj, rfl⟩ := rowsP_mem.1 ha
  refine ⟨comb (fun k => (at0 (pts E) k).v j) G, span_iff.2 ⟨_, rfl⟩, ?_⟩
  funext i
  show xs (fun k => gm ((at0 (pts E) k).v j) ((at0 G k).v i)) G.length = if i < m then A i j else 0
  rw [show G.length = r from rowsP_len _ _ _]
  by_cases hi : i < m
  · rw [if_pos hi]
    have h1 := congrArg (fun p : Pt => p.v j) (hC i hi)
    simp only [bare, comb, if_pos hj] at h1
    rw [h1, show (pts E).length = r by simp [pts, e2]]
    refine xs_congr fun k hk => ?_
    rw [show at0 G k = _ from rowsP_at hk]
    simp only [bare, if_pos hi]
    exact gm_comm _ _
  · rw [if_neg hi]
    refine xs_zero fun k hk => ?_
    rw [show at0 G k = _ from rowsP_at hk]
    simp only [bare, if_neg hi]
    exact gm_zero_right _
theorem rank_turned {A : Nat → Nat → UInt8} {m n r s : Nat} (hr : Rk (rowsP A m n) r) (hs : Rk (rowsP (fun j i => A i j) n m) s) : r = s :=
  Nat.le_antisymm (cols_le (A := fun j i => A i j) hs hr) (cols_le hr hs)
def mulM (A B : Nat → Nat → UInt8) (n : Nat) : Nat → Nat → UInt8 := fun i j => xs (fun k => gm (A i k) (B k j)) n
theorem rank_mul_right {A B : Nat → Nat → UInt8} {m n p r s : Nat} (hr : Rk (rowsP (mulM A B n) m p) r) (hs : Rk (rowsP B n p) s) : r ≤ s := by
  refine hr.le hs fun a ha => ?_
  obtain ⟨i, hi, rfl⟩ := rowsP_mem.1 ha
  refine ⟨comb (A i) (rowsP B n p), span_iff.2 ⟨_, rfl⟩, ?_⟩
  funext j
  show xs (fun k => gm (A i k) ((at0 (rowsP B n p) k).v j)) (rowsP B n p).length = if j < p then mulM A B n i j else 0
  rw [rowsP_len]
  by_cases hj : j < p
  · rw [if_pos hj]
    refine xs_congr fun k hk => ?_
    rw [rowsP_at hk]
    simp only [bare, if_pos hj]
  · rw [if_neg hj]
    refine xs_zero fun k hk => ?_
    rw [rowsP_at hk]
    simp only [bare, if_neg hj, gm_zero_right]
theorem rank_mul_left {A B : Nat → Nat → UInt8} {m n p r s : Nat} (hr : Rk (rowsP (mulM A B n) m p) r) (hs : Rk (rowsP A m n) s) : r ≤ s := by
  obtain ⟨t, _, ht⟩ := Rk.exists (L := rowsP (fun j i => mulM A B n i j) p m) rowsP_bare
  obtain ⟨u, _, hu⟩ := Rk.exists (L := rowsP (fun j i => A i j) n m) rowsP_bare
  rw [rank_turned hr ht, rank_turned hs hu]
  have e : rowsP (fun j i => mulM A B n i j) p m = rowsP (mulM (fun j k => B k j) (fun k i => A i k) n) p m := by
    unfold rowsP
    congr 1
    funext j
    congr 1
    funext i
    congr 1
    exact xs_congr fun k _ => gm_comm _ _
  rw [e] at ht
  exact rank_mul_right ht hu
theorem mul_assocM (A B C : Nat → Nat → UInt8) (n p : Nat) (i j : Nat) : mulM (mulM A B n) C p i j = mulM A (mulM B C p) n i j := by
  unfold mulM
  have h1 : ∀ k, gm (xs (fun l => gm (A i l) (B l k)) n) (C k j) = xs (fun l => gm (A i l) (gm (B l k) (C k j))) n := fun k => by
    rw [← xs_mul_right]
    exact xs_congr fun l _ => gm_assoc _ _ _
  rw [xs_congr fun k _ => h1 k, xs_swap]
  exact xs_congr fun l _ => xs_mul _ _ _
def unitM (i j : Nat) : UInt8 := if i = j then 1 else 0
theorem mul_unit {A : Nat → Nat → UInt8} {n i j : Nat} (hj : j < n) : mulM A unitM n i j = A i j := by
  unfold mulM
  rw [xs_single hj fun k _ hne => by rw [unitM, if_neg hne, gm_zero_right]]
  rw [unitM, if_pos rfl, gm_one_right]
theorem unit_mul {A : Nat → Nat → UInt8} {n i j : Nat} (hi : i < n) : mulM unitM A n i j = A i j := by
  unfold mulM
  rw [xs_single hi fun k _ hne => by rw [unitM, if_neg (Ne.symm hne), gm_zero_left]]
  rw [unitM, if_pos rfl, gm_one_left]
end Go.Proofs.Ytilelmejpbnbnaa
