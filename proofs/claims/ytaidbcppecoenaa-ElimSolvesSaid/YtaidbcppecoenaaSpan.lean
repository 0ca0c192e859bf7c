import Derived.Test.YtaidbcppecoenaaGf
/- Spaces of vectors with what they carry: spans, leads, bases, ranks. Plain facts; nothing of the program. -/
namespace Go.Proofs.Ytaidbcppecoenaa
set_option linter.unusedVariables false

abbrev V := Nat → UInt8
/-- A vector, and what it carries. -/
structure Pt where
  v : V
  d : V
theorem Pt.eqI {a b : Pt} (h1 : ∀ i, a.v i = b.v i) (h2 : ∀ i, a.d i = b.d i) : a = b := by
  obtain ⟨v, d⟩ := a
  obtain ⟨v', d'⟩ := b
  have e1 : v = v' := funext h1
  have e2 : d = d' := funext h2
  rw [e1, e2]
def Pt.zero : Pt := ⟨fun _ => 0, fun _ => 0⟩
/-- m less c times o. -/
def Pt.less (m : Pt) (c : UInt8) (o : Pt) : Pt := ⟨fun i => m.v i ^^^ gm c (o.v i), fun i => m.d i ^^^ gm c (o.d i)⟩
open Pt (less)
theorem xor_cancel (x y : UInt8) : x ^^^ y ^^^ y = x := by rw [UInt8.xor_assoc, UInt8.xor_self, UInt8.xor_zero]
theorem less_back2 (m : Pt) (c : UInt8) (a : Pt) : less (less m c a) c a = m := by
  refine Pt.eqI (fun i => ?_) (fun i => ?_) <;> simp only [less, xor_cancel]
theorem less_none (m : Pt) (a : Pt) : less m 0 a = m := by
  refine Pt.eqI (fun i => ?_) (fun i => ?_) <;> simp only [less, gm_zero_left, UInt8.xor_zero]
theorem less_self (m : Pt) : less m 1 m = Pt.zero := by
  refine Pt.eqI (fun i => ?_) (fun i => ?_) <;> simp only [less, gm_one_left, UInt8.xor_self] <;> rfl
theorem less_zero_right (m : Pt) (c : UInt8) : less m c Pt.zero = m := by
  refine Pt.eqI (fun i => ?_) (fun i => ?_) <;> simp only [less, Pt.zero, gm_zero_right, UInt8.xor_zero]

/-! ### Closed sets -/
def Sub (S : Pt → Prop) : Prop := S Pt.zero ∧ ∀ m c o, S m → S o → S (less m c o)
def Span : List Pt → Pt → Prop
  | [], m => m = Pt.zero
  | a :: L, m => ∃ c, Span L (less m c a)
theorem Span.zero (L : List Pt) : Span L Pt.zero := by
  induction L with
  | nil => rfl
  | cons a L ih => exact ⟨0, by rw [less_none]; exact ih⟩
theorem less_mix (m o a : Pt) (c p q : UInt8) : less (less m c o) (p ^^^ gm c q) a = less (less m p a) c (less o q a) := by
  refine Pt.eqI (fun i => ?_) (fun i => ?_) <;> simp only [less, gm_xor_left, gm_xor_right, gm_assoc] <;> ac_rfl
theorem Span.less {L : List Pt} : ∀ {m o : Pt} (c : UInt8), Span L m → Span L o → Span L (less m c o) := by
  induction L with
  | nil =>
    intro m o c h1 h2
    rw [h1, h2, less_zero_right]
    rfl
  | cons a L ih =>
    rintro m o c ⟨p, hp⟩ ⟨q, hq⟩
    exact ⟨p ^^^ gm c q, by rw [less_mix]; exact ih c hp hq⟩
theorem Span.sub (L : List Pt) : Sub (Span L) := ⟨Span.zero L, fun _ c _ h1 h2 => Span.less c h1 h2⟩
theorem Span.mem {L : List Pt} {a : Pt} (h : a ∈ L) : Span L a := by
  induction L with
  | nil => simp at h
  | cons b L ih =>
    rcases List.mem_cons.1 h with rfl | h
    · exact ⟨1, by rw [less_self]; exact Span.zero L⟩
    · exact ⟨0, by rw [less_none]; exact ih h⟩
theorem Span.least {S : Pt → Prop} (hS : Sub S) {L : List Pt} (h : ∀ a ∈ L, S a) : ∀ {m : Pt}, Span L m → S m := by
  induction L with
  | nil => intro m hm; rw [show m = Pt.zero from hm]; exact hS.1
  | cons a L ih =>
    rintro m ⟨c, hc⟩
    have h1 := ih (fun b hb => h b (List.mem_cons_of_mem _ hb)) hc
    have := hS.2 _ c _ h1 (h a (List.mem_cons_self ..))
    rwa [less_back2] at this
theorem Span.mono {L M : List Pt} (h : ∀ a ∈ L, Span M a) {m : Pt} (hm : Span L m) : Span M m := Span.least (Span.sub M) h hm

/-! ### Rows that lead at unlike places -/
def leads (E : List (Nat × Pt)) : List Nat := E.map Prod.fst
def pts (E : List (Nat × Pt)) : List Pt := E.map Prod.snd
/-- Each leads with a 1 where it says, no two at one place. -/
def Ech (E : List (Nat × Pt)) : Prop := (∀ e ∈ E, e.2.v e.1 = 1 ∧ ∀ j, j < e.1 → e.2.v j = 0) ∧ (leads E).Nodup
theorem Ech.nil : Ech [] := ⟨fun e h => by simp at h, by simp [leads]⟩
theorem Ech.tail {e : Nat × Pt} {E : List (Nat × Pt)} (h : Ech (e :: E)) : Ech E :=
  ⟨fun f hf => h.1 f (List.mem_cons_of_mem _ hf), (List.nodup_cons.1 h.2).2⟩
theorem mem_leads {E : List (Nat × Pt)} {i : Nat} : i ∈ leads E ↔ ∃ e ∈ E, e.1 = i := by simp [leads]
theorem one_ne : (1 : UInt8) ≠ 0 := by decide
/-- Where anything of the span leads, one of the rows leads. -/
theorem Ech.lead {E : List (Nat × Pt)} : Ech E → ∀ {m : Pt} {i : Nat}, Span (pts E) m → m.v i ≠ 0 → (∀ j, j < i → m.v j = 0) → i ∈ leads E := by
  induction E with
  | nil =>
    intro _ m i hm h1 _
    rw [show m = Pt.zero from hm] at h1
    exact absurd rfl h1
  | cons e E ih =>
    intro hE m i hm h1 h2
    obtain ⟨p, a⟩ := e
    obtain ⟨c, hc⟩ := hm
    obtain ⟨ha1, ha2⟩ := hE.1 (p, a) (List.mem_cons_self ..)
    have hnd := List.nodup_cons.1 hE.2
    simp only at ha1 ha2
    by_cases hip : i = p
    · subst hip; simp [leads]
    · by_cases hc0 : c = 0
      · subst hc0
        rw [less_none] at hc
        exact List.mem_cons_of_mem _ (ih hE.tail hc h1 h2)
      · have hu : ∀ j, (less m c a).v j = m.v j ^^^ gm c (a.v j) := fun _ => rfl
        rcases Nat.lt_or_gt_of_ne hip with hlt | hgt
        · refine List.mem_cons_of_mem _ (ih hE.tail hc ?_ ?_)
          · rw [hu, ha2 i hlt, gm_zero_right, UInt8.xor_zero]; exact h1
          · intro j hj
            rw [hu, ha2 j (by omega), gm_zero_right, UInt8.xor_zero]; exact h2 j hj
        · refine absurd (ih hE.tail hc (i := p) ?_ ?_) hnd.1
          · rw [hu, ha1, gm_one_right, h2 p hgt, UInt8.zero_xor]; exact hc0
          · intro j hj
            rw [hu, ha2 j hj, gm_zero_right, UInt8.xor_zero]; exact h2 j (by omega)
/-- What of the span has no vector carries nothing. -/
theorem Ech.graph {E : List (Nat × Pt)} : Ech E → ∀ {m : Pt}, Span (pts E) m → (∀ i, m.v i = 0) → m = Pt.zero := by
  induction E with
  | nil => intro _ m hm _; exact hm
  | cons e E ih =>
    intro hE m hm h0
    obtain ⟨p, a⟩ := e
    obtain ⟨c, hc⟩ := hm
    obtain ⟨ha1, ha2⟩ := hE.1 (p, a) (List.mem_cons_self ..)
    have hnd := List.nodup_cons.1 hE.2
    simp only at ha1 ha2
    by_cases hc0 : c = 0
    · subst hc0
      rw [less_none] at hc
      exact ih hE.tail hc h0
    · have hu : ∀ j, (less m c a).v j = m.v j ^^^ gm c (a.v j) := fun _ => rfl
      refine absurd (hE.tail.lead hc (i := p) ?_ ?_) hnd.1
      · rw [hu, ha1, gm_one_right, h0, UInt8.zero_xor]; exact hc0
      · intro j hj
        rw [hu, ha2 j hj, gm_zero_right, UInt8.xor_zero]; exact h0 j
theorem exists_lead {v : V} {k : Nat} (h : v k ≠ 0) : ∃ i, i ≤ k ∧ v i ≠ 0 ∧ ∀ j, j < i → v j = 0 := by
  induction k using Nat.strongRecOn with
  | _ k ih =>
    by_cases hz : ∀ j, j < k → v j = 0
    · exact ⟨k, Nat.le_refl _, h, hz⟩
    · obtain ⟨j, hj⟩ : ∃ j, ¬ (j < k → v j = 0) := by
        refine Classical.byContradiction fun hn => hz fun j => ?_
        exact Classical.byContradiction fun h2 => hn ⟨j, h2⟩
      have hjk : j < k := Classical.byContradiction fun h2 => hj fun h3 => absurd h3 h2
      have hv : v j ≠ 0 := fun h2 => hj fun _ => h2
      obtain ⟨i, h1, h2, h3⟩ := ih j hjk hv
      exact ⟨i, by omega, h2, h3⟩
/-- What of the span is 0 at all leads is nothing. -/
theorem Ech.zero {E : List (Nat × Pt)} (hE : Ech E) {m : Pt} (hm : Span (pts E) m) (h : ∀ i ∈ leads E, m.v i = 0) : m = Pt.zero := by
  refine hE.graph hm fun k => ?_
  refine Classical.byContradiction fun hk => ?_
  obtain ⟨i, _, h1, h2⟩ := exists_lead hk
  exact h1 (h i (hE.lead hm h1 h2))
/-- More rows need more room. -/
theorem Ech.sub {E F : List (Nat × Pt)} (hE : Ech E) (hF : Ech F) (h : ∀ e ∈ E, ∃ m, Span (pts F) m ∧ m.v = e.2.v) : ∀ i ∈ leads E, i ∈ leads F := by
  intro i hi
  obtain ⟨e, he, rfl⟩ := mem_leads.1 hi
  obtain ⟨m, hm, hv⟩ := h e he
  obtain ⟨h1, h2⟩ := hE.1 e he
  refine hF.lead hm ?_ ?_
  · rw [hv, h1]; exact one_ne
  · rw [hv]; exact h2
theorem Ech.le {E F : List (Nat × Pt)} (hE : Ech E) (hF : Ech F) (h : ∀ e ∈ E, ∃ m, Span (pts F) m ∧ m.v = e.2.v) : E.length ≤ F.length := by
  have := List.Nodup.length_le_of_subset hE.2 (hE.sub hF h)
  simpa [leads] using this
theorem Ech.len_le {E : List (Nat × Pt)} (hE : Ech E) {w : Nat} (h : ∀ i ∈ leads E, i < w) : E.length ≤ w := by
  have := List.Nodup.length_le_of_subset (l₂ := List.range w) hE.2 (fun i hi => List.mem_range.2 (h i hi))
  simpa [leads] using this

/-! ### Sorted, and reduced -/
def Rising (E : List (Nat × Pt)) : Prop := (leads E).Pairwise (· < ·)
theorem rising_nodup {l : List Nat} (h : l.Pairwise (· < ·)) : l.Nodup := h.imp fun h => Nat.ne_of_lt h
theorem rising_eq {l m : List Nat} (hl : l.Pairwise (· < ·)) (hm : m.Pairwise (· < ·)) (h : ∀ i, i ∈ l ↔ i ∈ m) : l = m := by
  have hp := (List.perm_ext_iff_of_nodup (rising_nodup hl) (rising_nodup hm)).2 h
  refine List.Perm.eq_of_pairwise (le := (· < ·)) ?_ hl hm hp
  intro a b _ _ h1 h2
  omega
/-- Where one leads all others have a 0. -/
def Red (E : List (Nat × Pt)) : Prop := Ech E ∧ ∀ e ∈ E, ∀ f ∈ E, e.1 ≠ f.1 → e.2.v f.1 = 0
theorem pair_eq {E F : List (Nat × Pt)} (h : leads E = leads F) (hp : ∀ i a b, (i, a) ∈ E → (i, b) ∈ F → a = b) : E = F := by
  induction E generalizing F with
  | nil => cases F with
    | nil => rfl
    | cons f F => simp [leads] at h
  | cons e E ih =>
    cases F with
    | nil => simp [leads] at h
    | cons f F =>
      obtain ⟨i, a⟩ := e
      obtain ⟨j, b⟩ := f
      simp only [leads, List.map_cons, List.cons.injEq] at h
      obtain ⟨rfl, h⟩ := h
      have e1 := hp i a b (List.mem_cons_self ..) (List.mem_cons_self ..)
      subst e1
      rw [ih h fun i x y hx hy => hp i x y (List.mem_cons_of_mem _ hx) (List.mem_cons_of_mem _ hy)]
/-- There is but one list of reduced rows of a span, by rising places. -/
theorem Red.unique {E F : List (Nat × Pt)} (hE : Red E) (hF : Red F) (rE : Rising E) (rF : Rising F) (h : ∀ m, Span (pts E) m ↔ Span (pts F) m) : E = F := by
  have hm : ∀ {E : List (Nat × Pt)} {e : Nat × Pt}, e ∈ E → Span (pts E) e.2 := fun he => Span.mem (List.mem_map_of_mem he)
  have hl : leads E = leads F := rising_eq rE rF fun i =>
    ⟨hE.1.sub hF.1 (fun e he => ⟨e.2, (h _).1 (hm he), rfl⟩) i, hF.1.sub hE.1 (fun e he => ⟨e.2, (h _).2 (hm he), rfl⟩) i⟩
  refine pair_eq hl fun i a b ha hb => ?_
  have h1 : Span (pts E) (less a 1 b) := Span.less 1 (hm ha) ((h _).2 (hm hb))
  have h2 := hE.1.zero h1 fun j hj => ?_
  · have h3 := less_back2 a 1 b
    rw [h2] at h3
    rw [← h3]
    refine Pt.eqI (fun k => ?_) (fun k => ?_) <;> simp only [less, Pt.zero, gm_one_left, UInt8.zero_xor]
  · show a.v j ^^^ gm 1 (b.v j) = 0
    rw [gm_one_left]
    by_cases hij : i = j
    · subst hij
      rw [(hE.1.1 _ ha).1, (hF.1.1 _ hb).1, UInt8.xor_self]
    · obtain ⟨e, he, rfl⟩ := mem_leads.1 hj
      have hj' : e.1 ∈ leads F := hl ▸ hj
      obtain ⟨f, hf, hfe⟩ := mem_leads.1 hj'
      have h4 := hE.2 _ ha e he hij
      have h5 := hF.2 _ hb f hf (by rw [hfe]; exact hij)
      rw [hfe] at h5
      simp only at h4 h5
      rw [h4, h5, UInt8.xor_self]

/-! ### What is left -/
def clr (E : List (Nat × Pt)) (m : Pt) : Pt := E.foldl (fun m e => less m (m.v e.1) e.2) m
theorem clr_cons (e : Nat × Pt) (E : List (Nat × Pt)) (m : Pt) : clr (e :: E) m = clr E (less m (m.v e.1) e.2) := rfl
theorem clr_in {S : Pt → Prop} (hS : Sub S) {E : List (Nat × Pt)} : ∀ {m : Pt}, (∀ e ∈ E, S e.2) → S m → S (clr E m) := by
  induction E with
  | nil => intro m _ h; exact h
  | cons e E ih =>
    intro m h hm
    exact ih (fun f hf => h f (List.mem_cons_of_mem _ hf)) (hS.2 _ _ _ hm (h e (List.mem_cons_self ..)))
theorem clr_out {S : Pt → Prop} (hS : Sub S) {E : List (Nat × Pt)} : ∀ {m : Pt}, (∀ e ∈ E, S e.2) → S (clr E m) → S m := by
  induction E with
  | nil => intro m _ h; exact h
  | cons e E ih =>
    intro m h hm
    have h1 := ih (fun f hf => h f (List.mem_cons_of_mem _ hf)) hm
    have h2 := hS.2 _ (m.v e.1) _ h1 (h e (List.mem_cons_self ..))
    rwa [less_back2] at h2
theorem clr_keep {E : List (Nat × Pt)} {i : Nat} : ∀ {m : Pt}, (∀ e ∈ E, e.2.v i = 0) → (clr E m).v i = m.v i := by
  induction E with
  | nil => intro m _; rfl
  | cons e E ih =>
    intro m h
    rw [clr_cons, ih fun f hf => h f (List.mem_cons_of_mem _ hf)]
    show m.v i ^^^ gm _ (e.2.v i) = _
    rw [h e (List.mem_cons_self ..), gm_zero_right, UInt8.xor_zero]
theorem clr_zero {E : List (Nat × Pt)} : ∀ {m : Pt}, (∀ e ∈ E, e.2.v e.1 = 1) → E.Pairwise (fun e f => f.2.v e.1 = 0) → ∀ i ∈ leads E, (clr E m).v i = 0 := by
  induction E with
  | nil => intro m _ _ i hi; simp [leads] at hi
  | cons e E ih =>
    intro m h1 h2 i hi
    obtain ⟨h3, h4⟩ := List.pairwise_cons.1 h2
    rw [clr_cons]
    rcases List.mem_cons.1 hi with rfl | hi
    · rw [clr_keep h3]
      show m.v e.1 ^^^ gm _ (e.2.v e.1) = 0
      rw [h1 e (List.mem_cons_self ..), gm_one_right, UInt8.xor_self]
    · exact ih (fun f hf => h1 f (List.mem_cons_of_mem _ hf)) h4 i hi
theorem pairwise_of_nodup {E : List (Nat × Pt)} {R : Nat × Pt → Nat × Pt → Prop} (hd : (leads E).Nodup) (h : ∀ e ∈ E, ∀ f ∈ E, e.1 ≠ f.1 → R e f) : E.Pairwise R := by
  induction E with
  | nil => exact List.Pairwise.nil
  | cons e E ih =>
    have hd' := List.nodup_cons.1 hd
    refine List.pairwise_cons.2 ⟨fun f hf => h e (List.mem_cons_self ..) f (List.mem_cons_of_mem _ hf) fun heq => hd'.1 ?_, ih hd'.2 fun a ha b hb => h a (List.mem_cons_of_mem _ ha) b (List.mem_cons_of_mem _ hb)⟩
    exact mem_leads.2 ⟨f, hf, heq.symm⟩
theorem Red.clr_zero {E : List (Nat × Pt)} (h : Red E) {m : Pt} : ∀ i ∈ leads E, (clr E m).v i = 0 :=
  Go.Proofs.Ytaidbcppecoenaa.clr_zero (fun e he => (h.1.1 e he).1) (pairwise_of_nodup h.1.2 fun e he f hf hne => h.2 f hf e he (Ne.symm hne))
theorem Ech.clr_zero {E : List (Nat × Pt)} (h : Ech E) (hr : Rising E) {m : Pt} : ∀ i ∈ leads E, (clr E m).v i = 0 := by
  refine Go.Proofs.Ytaidbcppecoenaa.clr_zero (fun e he => (h.1 e he).1) ?_
  have : E.Pairwise (fun e f => e.1 < f.1) := List.pairwise_map.1 hr
  refine this.imp_of_mem ?_
  intro e f he hf hlt
  exact (h.1 f hf).2 _ hlt
/-! ### One row more -/
theorem mid_perm {α : Type} (A B : List α) (x : α) : (A ++ x :: B).Perm (x :: (A ++ B)) := List.perm_middle
theorem Ech.perm {E F : List (Nat × Pt)} (h : Ech E) (p : E.Perm F) : Ech F :=
  ⟨fun e he => h.1 e (p.mem_iff.2 he), (p.map Prod.fst).nodup_iff.1 h.2⟩
theorem Ech.cons {E : List (Nat × Pt)} {i : Nat} {a : Pt} (h : Ech E) (hi : i ∉ leads E) (h1 : a.v i = 1) (h2 : ∀ j, j < i → a.v j = 0) : Ech ((i, a) :: E) := by
  refine ⟨fun e he => ?_, List.nodup_cons.2 ⟨hi, h.2⟩⟩
  rcases List.mem_cons.1 he with rfl | he
  · exact ⟨h1, h2⟩
  · exact h.1 e he
theorem Span.perm {L M : List Pt} (p : L.Perm M) {m : Pt} : Span L m ↔ Span M m :=
  ⟨Span.mono fun a ha => Span.mem (p.mem_iff.1 ha), Span.mono fun a ha => Span.mem (p.mem_iff.2 ha)⟩
theorem rising_mid {A B : List (Nat × Pt)} {i : Nat} {a : Pt} (h : Rising (A ++ B)) (hA : ∀ e ∈ A, e.1 < i) (hB : ∀ e ∈ B, i < e.1) : Rising (A ++ (i, a) :: B) := by
  unfold Rising leads at *
  rw [List.map_append, List.pairwise_append] at h
  rw [List.map_append, List.map_cons, List.pairwise_append, List.pairwise_cons]
  obtain ⟨h1, h2, h3⟩ := h
  refine ⟨h1, ⟨fun j hj => ?_, h2⟩, fun x hx y hy => ?_⟩
  · obtain ⟨e, he, rfl⟩ := List.mem_map.1 hj
    exact hB e he
  · obtain ⟨e, he, rfl⟩ := List.mem_map.1 hx
    rcases List.mem_cons.1 hy with rfl | hy
    · exact hA e he
    · exact h3 _ hx _ hy
/-- From each row so much of a new one is taken away as the row has where that leads. -/
def lessAll (i : Nat) (a : Pt) (E : List (Nat × Pt)) : List (Nat × Pt) := E.map fun e => (e.1, less e.2 (e.2.v i) a)
theorem lessAll_leads (i : Nat) (a : Pt) (E : List (Nat × Pt)) : leads (lessAll i a E) = leads E := by simp [lessAll, leads]
theorem Red.grow {E : List (Nat × Pt)} {i : Nat} {a : Pt} (h : Red E) (h0 : ∀ j ∈ leads E, a.v j = 0) (h1 : a.v i = 1) (h2 : ∀ j, j < i → a.v j = 0) : Red ((i, a) :: lessAll i a E) := by
  have hi : i ∉ leads E := fun hi => by
    have := h0 i hi
    rw [h1] at this
    exact one_ne this
  have hE : Ech (lessAll i a E) := by
    refine ⟨fun e he => ?_, by rw [lessAll_leads]; exact h.1.2⟩
    obtain ⟨f, hf, rfl⟩ := List.mem_map.1 he
    obtain ⟨f1, f2⟩ := h.1.1 f hf
    have hz := h0 f.1 (mem_leads.2 ⟨f, hf, rfl⟩)
    refine ⟨?_, fun j hj => ?_⟩
    · show f.2.v f.1 ^^^ gm _ (a.v f.1) = 1
      rw [hz, gm_zero_right, UInt8.xor_zero, f1]
    · show f.2.v j ^^^ gm (f.2.v i) (a.v j) = 0
      simp only at hj
      rw [f2 j hj]
      by_cases hlt : i < f.1
      · rw [f2 i hlt, gm_zero_left]; rfl
      · rw [h2 j (by omega), gm_zero_right]; rfl
  refine ⟨hE.cons (by rw [lessAll_leads]; exact hi) h1 h2, fun e he f hf hne => ?_⟩
  rcases List.mem_cons.1 he with rfl | he
  · rcases List.mem_cons.1 hf with rfl | hf
    · exact absurd rfl hne
    · obtain ⟨g, hg, rfl⟩ := List.mem_map.1 hf
      exact h0 g.1 (mem_leads.2 ⟨g, hg, rfl⟩)
  · obtain ⟨g, hg, rfl⟩ := List.mem_map.1 he
    rcases List.mem_cons.1 hf with rfl | hf
    · show g.2.v i ^^^ gm (g.2.v i) (a.v i) = 0
      rw [h1, gm_one_right, UInt8.xor_self]
    · obtain ⟨g', hg', rfl⟩ := List.mem_map.1 hf
      show g.2.v g'.1 ^^^ gm (g.2.v i) (a.v g'.1) = 0
      rw [h0 g'.1 (mem_leads.2 ⟨g', hg', rfl⟩), gm_zero_right, UInt8.xor_zero]
      exact h.2 g hg g' hg' hne
theorem Red.perm {E F : List (Nat × Pt)} (h : Red E) (p : E.Perm F) : Red F :=
  ⟨h.1.perm p, fun e he f hf hne => h.2 e (p.mem_iff.2 he) f (p.mem_iff.2 hf) hne⟩
theorem grow_span {E : List (Nat × Pt)} {i : Nat} {a : Pt} {m : Pt} : Span (pts ((i, a) :: lessAll i a E)) m ↔ Span (a :: pts E) m := by
  constructor
  · refine Span.mono fun b hb => ?_
    rcases List.mem_cons.1 hb with rfl | hb
    · exact Span.mem (List.mem_cons_self ..)
    · obtain ⟨e, he, rfl⟩ := List.mem_map.1 hb
      obtain ⟨f, hf, rfl⟩ := List.mem_map.1 he
      exact Span.less _ (Span.mem (List.mem_cons_of_mem _ (List.mem_map_of_mem hf))) (Span.mem (List.mem_cons_self ..))
  · refine Span.mono fun b hb => ?_
    rcases List.mem_cons.1 hb with rfl | hb
    · exact Span.mem (List.mem_cons_self ..)
    · obtain ⟨e, he, rfl⟩ := List.mem_map.1 hb
      have h1 : Span (pts ((i, a) :: lessAll i a E)) (less e.2 (e.2.v i) a) := Span.mem (List.mem_cons_of_mem _ (List.mem_map_of_mem (List.mem_map_of_mem (f := fun e => (e.1, less e.2 (e.2.v i) a)) he)))
      have h2 : Span (pts ((i, a) :: lessAll i a E)) a := Span.mem (List.mem_cons_self ..)
      have h3 := Span.less (e.2.v i) h1 h2
      rwa [less_back2] at h3
/-- A row times a number. -/
def scl (c : UInt8) (m : Pt) : Pt := less Pt.zero c m
theorem scl_v (c : UInt8) (m : Pt) (i : Nat) : (scl c m).v i = gm c (m.v i) := by simp [scl, less, Pt.zero]
theorem scl_d (c : UInt8) (m : Pt) (i : Nat) : (scl c m).d i = gm c (m.d i) := by simp [scl, less, Pt.zero]
theorem scl_in {S : Pt → Prop} (hS : Sub S) (c : UInt8) {m : Pt} (h : S m) : S (scl c m) := hS.2 _ _ _ hS.1 h
theorem scl_scl (c d : UInt8) (m : Pt) : scl c (scl d m) = scl (gm c d) m := by
  refine Pt.eqI (fun i => ?_) (fun i => ?_) <;> simp only [scl_v, scl_d, gm_assoc]
theorem scl_one (m : Pt) : scl 1 m = m := by
  refine Pt.eqI (fun i => ?_) (fun i => ?_) <;> simp only [scl_v, scl_d, gm_one_left]
theorem scl_out {S : Pt → Prop} (hS : Sub S) {c : UInt8} (hc : c ≠ 0) {m : Pt} (h : S (scl c m)) : S m := by
  have := scl_in hS (ginv c) h
  rwa [scl_scl, gm_comm, gm_ginv hc, scl_one] at this
/-- A row that is put in: the span of what is left of it, normed, and the rows is that of it and the rows. -/
theorem put_span {E : List (Nat × Pt)} {c : UInt8} (hc : c ≠ 0) {m x : Pt} : Span (scl c (clr E m) :: pts E) x ↔ Span (m :: pts E) x := by
  have hp : ∀ {b : Pt}, ∀ e ∈ E, Span (b :: pts E) e.2 := fun e he => Span.mem (List.mem_cons_of_mem _ (List.mem_map_of_mem he))
  constructor
  · refine Span.mono fun b hb => ?_
    rcases List.mem_cons.1 hb with rfl | hb
    · exact scl_in (Span.sub _) c (clr_in (Span.sub _) hp (Span.mem (List.mem_cons_self ..)))
    · exact Span.mem (List.mem_cons_of_mem _ hb)
  · refine Span.mono fun b hb => ?_
    rcases List.mem_cons.1 hb with rfl | hb
    · exact clr_out (Span.sub _) hp (scl_out (Span.sub _) hc (Span.mem (List.mem_cons_self ..)))
    · exact Span.mem (List.mem_cons_of_mem _ hb)
/-- A row of which nothing is left adds nothing. -/
theorem spare_span {E : List (Nat × Pt)} {m x : Pt} (h : clr E m = Pt.zero) : Span (m :: pts E) x ↔ Span (pts E) x := by
  constructor
  · refine Span.mono fun b hb => ?_
    rcases List.mem_cons.1 hb with rfl | hb
    · exact clr_out (Span.sub _) (fun e he => Span.mem (List.mem_map_of_mem he)) (by rw [h]; exact Span.zero _)
    · exact Span.mem hb
  · exact Span.mono fun b hb => Span.mem (List.mem_cons_of_mem _ hb)
end Go.Proofs.Ytaidbcppecoenaa

