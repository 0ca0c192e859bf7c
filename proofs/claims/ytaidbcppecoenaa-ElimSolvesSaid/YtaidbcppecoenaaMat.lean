import Derived.Test.YtaidbcppecoenaaSpan
/- Sums, combinations, ranks of grids. Plain facts; nothing of the program. -/
namespace Go.Proofs.Ytaidbcppecoenaa
set_option linter.unusedVariables false
open Pt (less)

/-! ### Sums -/
def xs (f : Nat → UInt8) : Nat → UInt8
  | 0 => 0
  | n + 1 => xs f n ^^^ f n
theorem xs_congr {f g : Nat → UInt8} {n : Nat} (h : ∀ i, i < n → f i = g i) : xs f n = xs g n := by
  induction n with
  | zero => rfl
  | succ n ih => rw [xs, xs, ih fun i hi => h i (by omega), h n (by omega)]
theorem xs_zero {f : Nat → UInt8} {n : Nat} (h : ∀ i, i < n → f i = 0) : xs f n = 0 := by
  induction n with
  | zero => rfl
  | succ n ih => rw [xs, ih fun i hi => h i (by omega), h n (by omega)]; rfl
theorem xs_add (f g : Nat → UInt8) (n : Nat) : xs (fun i => f i ^^^ g i) n = xs f n ^^^ xs g n := by
  induction n with
  | zero => simp [xs]
  | succ n ih => simp only [xs, ih]; ac_rfl
theorem xs_mul (c : UInt8) (f : Nat → UInt8) (n : Nat) : xs (fun i => gm c (f i)) n = gm c (xs f n) := by
  induction n with
  | zero => exact (gm_zero_right c).symm
  | succ n ih => rw [xs, ih, xs, gm_xor_right]
theorem xs_single {f : Nat → UInt8} {n k : Nat} (hk : k < n) (h : ∀ i, i < n → i ≠ k → f i = 0) : xs f n = f k := by
  induction n with
  | zero => omega
  | succ n ih =>
    rw [xs]
    by_cases hkn : k = n
    · subst hkn
      rw [xs_zero fun i hi => h i (by omega) (by omega), UInt8.zero_xor]
    · rw [ih (by omega) fun i hi hne => h i (by omega) hne, h n (by omega) (by omega), UInt8.xor_zero]
/-! ### What a span's members are -/
/-- A vector that carries nothing. -/
def bare (v : V) : Pt := ⟨v, fun _ => 0⟩
/-- What no vector carries anything, none of their span carries. -/
theorem bare_span {L : List Pt} (h : ∀ a ∈ L, a.d = fun _ => 0) {m : Pt} (hm : Span L m) : m.d = fun _ => 0 := by
  refine Span.least (S := fun m => m.d = fun _ => 0) ⟨rfl, fun m c o h1 h2 => ?_⟩ h hm
  funext i
  show m.d i ^^^ gm c (o.d i) = 0
  rw [h1, h2, gm_zero_right]; exact UInt8.xor_zero
theorem wide_span {L : List Pt} {w : Nat} (h : ∀ a ∈ L, ∀ i, w ≤ i → a.v i = 0) {m : Pt} (hm : Span L m) : ∀ i, w ≤ i → m.v i = 0 := by
  refine Span.least (S := fun m => ∀ i, w ≤ i → m.v i = 0) ⟨fun _ _ => rfl, fun m c o h1 h2 i hi => ?_⟩ h hm
  show m.v i ^^^ gm c (o.v i) = 0
  rw [h1 i hi, h2 i hi, gm_zero_right]; rfl

/-! ### Ranks -/
/-- So many rows lead, and have the same span. -/
def Rk (L : List Pt) (r : Nat) : Prop := ∃ E, Ech E ∧ E.length = r ∧ ∀ m, Span (pts E) m ↔ Span L m
theorem pts_mem {E : List (Nat × Pt)} {e : Nat × Pt} (h : e ∈ E) : Span (pts E) e.2 := Span.mem (List.mem_map_of_mem h)
/-- Of fewer vectors, the rank is no greater. -/
theorem Rk.le {L M : List Pt} {r s : Nat} (h1 : Rk L r) (h2 : Rk M s) (h : ∀ a ∈ L, ∃ m, Span M m ∧ m.v = a.v) : r ≤ s := by
  obtain ⟨E, e1, rfl, e3⟩ := h1
  obtain ⟨F, f1, rfl, f3⟩ := h2
  refine e1.le f1 fun e he => ?_
  have h4 := (e3 _).1 (pts_mem he)
  suffices ∀ {x : Pt}, Span L x → ∃ m, Span M m ∧ m.v = x.v by
    obtain ⟨m, h5, h6⟩ := this h4
    exact ⟨m, (f3 _).2 h5, h6⟩
  intro x hx
  refine Span.least (S := fun x => ∃ m, Span M m ∧ m.v = x.v) ⟨⟨Pt.zero, Span.zero _, rfl⟩, ?_⟩ h hx
  rintro m c o ⟨m', a1, a2⟩ ⟨o', b1, b2⟩
  refine ⟨less m' c o', Span.less c a1 b1, ?_⟩
  funext i
  show m'.v i ^^^ gm c (o'.v i) = m.v i ^^^ gm c (o.v i)
  rw [a2, b2]
theorem Rk.unique {L : List Pt} {r s : Nat} (h1 : Rk L r) (h2 : Rk L s) : r = s :=
  Nat.le_antisymm (h1.le h2 fun a ha => ⟨a, Span.mem ha, rfl⟩) (h2.le h1 fun a ha => ⟨a, Span.mem ha, rfl⟩)
theorem Rk.congr {L M : List Pt} {r : Nat} (h1 : Rk L r) (h : ∀ m, Span L m ↔ Span M m) : Rk M r := by
  obtain ⟨E, e1, e2, e3⟩ := h1
  exact ⟨E, e1, e2, fun m => (e3 m).trans (h m)⟩
theorem Rk.nil : Rk [] 0 := ⟨[], Ech.nil, rfl, fun m => Iff.rfl⟩
/-- What is left of a vector behind rows that lead, in any order of theirs. -/
theorem Ech.left {E : List (Nat × Pt)} (h : Ech E) (m : Pt) : ∃ x, (∀ i ∈ leads E, x.v i = 0) ∧ (∀ S : Pt → Prop, Sub S → (∀ e ∈ E, S e.2) → (S x ↔ S m)) := by
  -- the rows by rising places
  let F := E.mergeSort fun a b => decide (a.1 ≤ b.1)
  have hp : F.Perm E := List.mergeSort_perm _ _
  have hF : Ech F := h.perm hp.symm
  have hs : F.Pairwise fun a b => a.1 ≤ b.1 := by
    have := List.pairwise_mergeSort (le := fun a b : Nat × Pt => decide (a.1 ≤ b.1)) (fun a b c h1 h2 => by simp at *; omega) (fun a b => by simp; omega) E
    refine this.imp ?_
    intro a b h; simpa using h
  have hr : Rising F := by
    have h1 : (leads F).Pairwise (· ≤ ·) := List.pairwise_map.2 hs
    have h2 := hF.2
    exact (h1.and h2).imp fun {a b} h => Nat.lt_of_le_of_ne h.1 h.2
  refine ⟨clr F m, fun i hi => hF.clr_zero hr i ?_, fun S hS hm => ?_⟩
  · obtain ⟨e, he, rfl⟩ := mem_leads.1 hi
    exact mem_leads.2 ⟨e, hp.mem_iff.2 he, rfl⟩
  · have hm' : ∀ e ∈ F, S e.2 := fun e he => hm e (hp.mem_iff.1 he)
    exact ⟨clr_out hS hm', clr_in hS hm'⟩
/-- One vector more: the rank is the same, or one more. -/
theorem Rk.cons {L : List Pt} (hL : ∀ a ∈ L, a.d = fun _ => 0) {a : Pt} (ha : a.d = fun _ => 0) {r : Nat} (h : Rk L r) : (Span L a ∧ Rk (a :: L) r) ∨ (¬ Span L a ∧ Rk (a :: L) (r + 1)) := by
  obtain ⟨E, e1, rfl, e3⟩ := h
  obtain ⟨x, x1, x2⟩ := e1.left a
  have hx : Span (pts E) x ↔ Span (pts E) a := x2 _ (Span.sub _) fun e he => pts_mem he
  have hxd : x.d = fun _ => 0 := (x2 (fun m => m.d = fun _ => 0) ⟨rfl, fun m c o h1 h2 => by funext i; show m.d i ^^^ gm c (o.d i) = 0; rw [h1, h2, gm_zero_right]; exact UInt8.xor_zero⟩ (fun e he => bare_span hL ((e3 _).1 (pts_mem he)))).2 ha
  by_cases hz : ∀ i, x.v i = 0
  · left
    have hx0 : x = Pt.zero := by
      refine Pt.eqI (fun i => ?_) (fun i => ?_)
      · exact hz i
      · rw [hxd]; rfl
    have hs : Span (pts E) a := hx.1 (by rw [hx0]; exact Span.zero _)
    refine ⟨(e3 _).1 hs, E, e1, rfl, fun m => ?_⟩
    rw [e3]
    constructor
    · exact Span.mono fun b hb => Span.mem (List.mem_cons_of_mem _ hb)
    · refine Span.mono fun b hb => ?_
      rcases List.mem_cons.1 hb with rfl | hb
      · exact (e3 _).1 hs
      · exact Span.mem hb
  · right
    obtain ⟨k, hk⟩ : ∃ k, x.v k ≠ 0 := Classical.byContradiction fun hn => hz fun i => Classical.byContradiction fun h => hn ⟨i, h⟩
    obtain ⟨i, _, i1, i2⟩ := exists_lead hk
    have hi : i ∉ leads E := fun h => i1 (x1 i h)
    refine ⟨fun hs => hi (e1.lead (hx.2 ((e3 _).2 hs)) i1 i2), (i, scl (ginv (x.v i)) x) :: E, e1.cons hi ?_ ?_, rfl, fun m => ?_⟩
    · rw [scl_v, gm_comm, gm_ginv i1]
    · intro j hj; rw [scl_v, i2 j hj, gm_zero_right]
    · have h1 : ∀ (S : Pt → Prop), Sub S → (∀ e ∈ E, S e.2) → (S (scl (ginv (x.v i)) x) ↔ S a) := fun S hS hm => by
        rw [← x2 S hS hm]
        exact ⟨scl_out hS (ginv_ne i1), scl_in hS _⟩
      constructor
      · refine Span.mono fun b hb => ?_
        have hm : ∀ e ∈ E, Span (a :: L) e.2 := fun e he => Span.mono (fun b hb => Span.mem (List.mem_cons_of_mem _ hb)) ((e3 _).1 (pts_mem he))
        rcases List.mem_cons.1 hb with rfl | hb
        · exact (h1 _ (Span.sub _) hm).2 (Span.mem (List.mem_cons_self ..))
        · obtain ⟨e, he, rfl⟩ := List.mem_map.1 hb
          exact hm e he
      · refine Span.mono fun b hb => ?_
        have hm : ∀ e ∈ E, Span (pts ((i, scl (ginv (x.v i)) x) :: E)) e.2 := fun e he => Span.mem (List.mem_cons_of_mem _ (List.mem_map_of_mem he))
        rcases List.mem_cons.1 hb with rfl | hb
        · exact (h1 _ (Span.sub _) hm).1 (Span.mem (List.mem_cons_self ..))
        · have := (e3 _).2 (Span.mem hb)
          exact Span.least (Span.sub _) (fun c hc => by obtain ⟨e, he, rfl⟩ := List.mem_map.1 hc; exact hm e he) this
theorem Rk.exists {L : List Pt} (hL : ∀ a ∈ L, a.d = fun _ => 0) : ∃ r, r ≤ L.length ∧ Rk L r := by
  induction L with
  | nil => exact ⟨0, Nat.le_refl _, Rk.nil⟩
  | cons a L ih =>
    have hL' : ∀ b ∈ L, b.d = fun _ => 0 := fun b hb => hL b (List.mem_cons_of_mem _ hb)
    obtain ⟨r, h1, h2⟩ := ih hL'
    rcases h2.cons hL' (hL a (List.mem_cons_self ..)) with ⟨_, h3⟩ | ⟨_, h3⟩
    · exact ⟨r, by simp; omega, h3⟩
    · exact ⟨r + 1, by simp; omega, h3⟩
/-- Where the rank is full, the span has all vectors of that width. -/
theorem Ech.all {E : List (Nat × Pt)} (h : Ech E) {w : Nat} (hf : ∀ i, i < w → i ∈ leads E) (hw : ∀ e ∈ E, ∀ i, w ≤ i → e.2.v i = 0) (v : V) (hv : ∀ i, w ≤ i → v i = 0) : ∃ m, Span (pts E) m ∧ m.v = v := by
  suffices ∀ k (v : V), (∀ i, i < w - k → v i = 0) → (∀ i, w ≤ i → v i = 0) → ∃ m, Span (pts E) m ∧ m.v = v from this w v (fun i hi => by omega) hv
  intro k
  induction k with
  | zero =>
    intro v h1 h2
    refine ⟨Pt.zero, Span.zero _, ?_⟩
    funext i
    by_cases hi : i < w
    · exact (h1 i (by omega)).symm
    · exact (h2 i (by omega)).symm
  | succ k ih =>
    intro v h1 h2
    by_cases hk : k < w
    · obtain ⟨e, he, hei⟩ := mem_leads.1 (hf (w - (k + 1)) (by omega))
      obtain ⟨g1, g2⟩ := h.1 e he
      have z1 : ∀ i, i < w - k → (fun i => v i ^^^ gm (v e.1) (e.2.v i)) i = 0 := by
        intro i hi
        show v i ^^^ gm (v e.1) (e.2.v i) = 0
        by_cases hie : i = e.1
        · rw [hie, g1, gm_one_right, UInt8.xor_self]
        · rw [h1 i (by omega), g2 i (by omega), gm_zero_right]; rfl
      have z2 : ∀ i, w ≤ i → (fun i => v i ^^^ gm (v e.1) (e.2.v i)) i = 0 := by
        intro i hi
        show v i ^^^ gm (v e.1) (e.2.v i) = 0
        rw [h2 i hi, hw e he i hi, gm_zero_right]; rfl
      obtain ⟨m, m1, m2⟩ := ih _ z1 z2
      refine ⟨less m (v e.1) e.2, Span.less _ m1 (pts_mem he), ?_⟩
      funext i
      show m.v i ^^^ gm (v e.1) (e.2.v i) = v i
      rw [m2]
      exact xor_cancel _ _
    · exact ih v (fun i hi => by omega) h2
theorem full_leads {l : List Nat} (hd : l.Nodup) {w : Nat} (hw : ∀ i ∈ l, i < w) (hl : l.length = w) : ∀ i, i < w → i ∈ l := by
  intro i hi
  refine Classical.byContradiction fun hn => ?_
  have h1 : (i :: l).Nodup := List.nodup_cons.2 ⟨hn, hd⟩
  have h2 := List.Nodup.length_le_of_subset (l₂ := List.range w) h1 (fun j hj => by
    rcases List.mem_cons.1 hj with rfl | hj
    · exact List.mem_range.2 hi
    · exact List.mem_range.2 (hw j hj))
  simp at h2
  omega
theorem Rk.all {L : List Pt} {w : Nat} (hw : ∀ a ∈ L, ∀ i, w ≤ i → a.v i = 0) (h : Rk L w) (v : V) (hv : ∀ i, w ≤ i → v i = 0) : ∃ m, Span L m ∧ m.v = v := by
  obtain ⟨E, e1, e2, e3⟩ := h
  have hwE : ∀ e ∈ E, ∀ i, w ≤ i → e.2.v i = 0 := fun e he => wide_span hw ((e3 _).1 (pts_mem he))
  have hlt : ∀ i ∈ leads E, i < w := fun i hi => by
    obtain ⟨e, he, rfl⟩ := mem_leads.1 hi
    refine Nat.lt_of_not_le fun hle => ?_
    have := hwE e he e.1 hle
    rw [(e1.1 e he).1] at this
    exact one_ne this
  obtain ⟨m, m1, m2⟩ := e1.all (full_leads e1.2 hlt (by simpa [leads] using e2)) hwE v hv
  exact ⟨m, (e3 _).1 m1, m2⟩

/-! ### Grids as functions: rows, columns, products -/
end Go.Proofs.Ytaidbcppecoenaa

