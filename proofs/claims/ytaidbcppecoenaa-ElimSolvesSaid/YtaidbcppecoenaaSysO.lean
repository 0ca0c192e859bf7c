import Derived.Test.YtaidbcppecoenaaElimH
import Derived.Test.YtaidbcppecoenaaElimI
/- The document's system: all equations that were taken, cleared anew each time. -/
namespace Go.Proofs.Ytaidbcppecoenaa
open Go.RowKit
set_option linter.unusedVariables false
set_option maxRecDepth 100000

/-- Each row cleared by those behind it. -/
def backL : List RowL → List RowL
  | [] => []
  | a :: M => restL M a :: backL M
theorem back_len (M : List RowL) : (backL M).length = M.length := by
  induction M with
  | nil => rfl
  | cons a M ih => simp [backL, ih]
theorem Good.tail_ {k t : Nat} {a : RowL} {M : List RowL} (h : Good k t (a :: M)) : Good k t M :=
  ⟨fun o ho => h.1 o (by simp [ho]), fun o ho => h.2.1 o (by simp [ho]), by
    have := h.2.2
    unfold Rising at this ⊢
    exact (List.pairwise_cons.1 this).2⟩
theorem Good.low {k t i : Nat} {a : RowL} {M : List RowL} (h : Good k t (a :: M)) (hi : leadI a.1 = (i : Int)) {j : Nat} (hj : j ≤ i) : ∀ e ∈ ledE M, e.2.v j = 0 := by
  intro e he
  have h2 := h.2.2
  unfold Rising at h2
  have h3 := (List.pairwise_cons.1 h2).1 e.1 (mem_leads.2 ⟨e, he, rfl⟩)
  refine (h.tail_.ech.1 e he).2 j ?_
  simp only [hi, Int.toNat_natCast] at h3
  omega
theorem rest_lead {k t i : Nat} {a : RowL} {M : List RowL} (h : Good k t (a :: M)) (hi : leadI a.1 = (i : Int)) : leadI (restL M a).1 = (i : Int) ∧ ∀ j, j ≤ i → (pt (restL M a)).v j = (pt a).v j := by
  obtain ⟨a1, a2, _⟩ := h.1 a (by simp)
  have hv : ∀ j, j ≤ i → (pt (restL M a)).v j = (pt a).v j := fun j hj => by
    rw [pt_rest h.tail_.1 a1 a2]
    exact clr_keep (h.low hi hj)
  obtain ⟨g1, g2, _⟩ := lead_fn_ne hi
  refine ⟨lead_of_fn ?_ fun j hj => ?_, hv⟩
  · have := hv i (Nat.le_refl _)
    show (pt (restL M a)).v i ≠ 0
    rw [this]; exact g1
  · have := hv j (by omega)
    show (pt (restL M a)).v j = 0
    rw [this]; exact g2 j hj
theorem back_good {k t : Nat} {M : List RowL} (h : Good k t M) : Good k t (backL M) ∧ Red (ledE (backL M)) ∧ leads (ledE (backL M)) = leads (ledE M) ∧ ∀ y, Span (pts (ledE (backL M))) y ↔ Span (pts (ledE M)) y := by
  induction M with
  | nil => exact ⟨Good.nil _ _, ⟨Ech.nil, fun e he => by simp [backL, ledE] at he⟩, rfl, fun y => Iff.rfl⟩
  | cons a M ih =>
    obtain ⟨i1, i2, i3, i4⟩ := ih h.tail_
    obtain ⟨a1, a2, a3⟩ := h.1 a (by simp)
    obtain ⟨i, hi⟩ : ∃ i : Nat, leadI a.1 = (i : Int) := ⟨_, (Int.toNat_of_nonneg a3).symm⟩
    obtain ⟨r1, r2⟩ := rest_lead h hi
    obtain ⟨z1, z2⟩ := rest_len h.tail_.1 a a1 a2
    have e1 : ledE (backL (a :: M)) = (i, pt (restL M a)) :: ledE (backL M) := by simp [backL, ledE, r1]
    have e0 : ledE (a :: M) = (i, pt a) :: ledE M := by simp [ledE, hi]
    have hl : leads (ledE (backL (a :: M))) = leads (ledE (a :: M)) := by
      rw [e1, e0]
      simp only [leads, List.map_cons, List.cons.injEq, true_and]
      exact i3
    have hrise : Rising (ledE (backL (a :: M))) := by
      unfold Rising
      rw [hl]
      exact h.2.2
    have h1 : (pt (restL M a)).v i = 1 := by
      rw [r2 i (Nat.le_refl _)]
      have := h.2.1 a (by simp)
      rw [hi, Int.toNat_natCast] at this
      exact this
    have hnot : ∀ j ∈ leads (ledE M), i < j := fun j hj => by
      have h2 := h.2.2
      unfold Rising at h2
      rw [e0] at h2
      exact (List.pairwise_cons.1 h2).1 j hj
    have hE : Ech (ledE (backL (a :: M))) := by
      rw [e1]
      refine i2.1.cons (fun hc => ?_) h1 fun j hj => ?_
      · rw [i3] at hc
        have := hnot i hc
        omega
      · exact (lead_fn_ne r1).2.1 j hj
    refine ⟨⟨fun o ho => ?_, fun o ho => (hE.1 _ (led_mem.2 ⟨o, ho, rfl⟩)).1, hrise⟩, ⟨hE, ?_⟩, hl, fun y => ?_⟩
    · unfold backL at ho
      rcases List.mem_cons.1 ho with rfl | ho
      · exact ⟨z1, z2, by rw [r1]; omega⟩
      · exact i1.1 o ho
    · rw [e1]
      intro e he f hf hne
      rcases List.mem_cons.1 he with rfl | he
      · rcases List.mem_cons.1 hf with rfl | hf
        · exact absurd rfl hne
        · have hm : f.1 ∈ leads (ledE M) := by rw [← i3]; exact mem_leads.2 ⟨f, hf, rfl⟩
          have := h.tail_.ech.clr_zero h.tail_.2.2 (m := pt a) f.1 hm
          rw [← pt_rest h.tail_.1 a1 a2] at this
          exact this
      · rcases List.mem_cons.1 hf with rfl | hf
        · have hm : e.1 ∈ leads (ledE M) := by rw [← i3]; exact mem_leads.2 ⟨e, he, rfl⟩
          exact (i2.1.1 e he).2 i (hnot e.1 hm)
        · exact i2.2 e he f hf hne
    · rw [e1, e0]
      show Span (pt (restL M a) :: pts (ledE (backL M))) y ↔ Span (pt a :: pts (ledE M)) y
      rw [span_cons_congr i4, pt_rest h.tail_.1 a1 a2]
      have := put_span (E := ledE M) (c := 1) one_ne (m := pt a) (x := y)
      rwa [scl_one] at this
/-- Of two lists of rows of one size with the same points there is but one. -/
theorem led_inj {k t : Nat} {A B : List RowL} (hA : Suit k t A) (hB : Suit k t B) (h : ledE A = ledE B) : A = B := by
  induction A generalizing B with
  | nil => cases B with
    | nil => rfl
    | cons b B => simp [ledE] at h
  | cons a A ih =>
    cases B with
    | nil => simp [ledE] at h
    | cons b B =>
      simp only [ledE, List.map_cons, List.cons.injEq, Prod.mk.injEq] at h
      obtain ⟨⟨_, h1⟩, h2⟩ := h
      obtain ⟨a1, a2, _⟩ := hA a (by simp)
      obtain ⟨b1, b2, _⟩ := hB b (by simp)
      rw [pt_inj (a1.trans b1.symm) (a2.trans b2.symm) h1, ih (fun o ho => hA o (by simp [ho])) (fun o ho => hB o (by simp [ho])) h2]
/-- Rows that are reduced, of one span, are the same. -/
theorem red_same {k t : Nat} {A B : List RowL} (hA : Good k t A) (hB : Good k t B) (rA : Red (ledE A)) (rB : Red (ledE B)) (h : ∀ y, Span (pts (ledE A)) y ↔ Span (pts (ledE B)) y) : A = B :=
  led_inj hA.1 hB.1 (rA.unique rB hA.2.2 hB.2.2 h)
/-- All equations, put in one by one. -/
def insAll (d : List RowL) : List RowL := d.foldl insL []
/-- The document's rows. -/
def rowsD (d : List RowL) : List RowL := backL (insAll d)
theorem insAll_snoc (d : List RowL) (x : RowL) : insAll (d ++ [x]) = insL (insAll d) x := by simp [insAll]
def Wide8 (k t : Nat) (d : List RowL) : Prop := ∀ o ∈ d, o.1.length = k ∧ o.2.length = t
theorem Wide8.take {k t : Nat} {d : List RowL} (h : Wide8 k t d) (j : Nat) : Wide8 k t (d.take j) := fun o ho => h o (List.mem_of_mem_take ho)
theorem Wide8.snoc {k t : Nat} {d : List RowL} {x : RowL} (h : Wide8 k t d) (h1 : x.1.length = k) (h2 : x.2.length = t) : Wide8 k t (d ++ [x]) := fun o ho => by
  rcases List.mem_append.1 ho with ho | ho
  · exact h o ho
  · simp at ho; subst ho; exact ⟨h1, h2⟩
/-- Equations that were taken: each has grown the rank. -/
def Held8 (k t : Nat) (d : List RowL) : Prop := Wide8 k t d ∧ Good k t (insAll d) ∧ (∀ y, Span (pts (ledE (insAll d))) y ↔ Span (d.map pt) y) ∧ (insAll d).length = d.length
theorem Held8.nil (k t : Nat) : Held8 k t [] := ⟨fun o ho => by simp at ho, Good.nil _ _, fun y => Iff.rfl, rfl⟩
theorem Held8.good {k t : Nat} {d : List RowL} (h : Held8 k t d) : Good k t (rowsD d) ∧ Red (ledE (rowsD d)) ∧ ∀ y, Span (pts (ledE (rowsD d))) y ↔ Span (d.map pt) y := by
  obtain ⟨h1, h2, h3, h4⟩ := h
  obtain ⟨b1, b2, b3, b4⟩ := back_good h2
  exact ⟨b1, b2, fun y => (b4 y).trans (h3 y)⟩
theorem Held8.len {k t : Nat} {d : List RowL} (h : Held8 k t d) : (rowsD d).length = d.length := by
  unfold rowsD
  rw [back_len, h.2.2.2]
theorem clr_same {E F : List (Nat × Pt)} {m : Pt} (hE : Ech E) (hz : ∀ i ∈ leads E, (clr E m).v i = 0) (hl : leads F = leads E) (hz2 : ∀ i ∈ leads F, (clr F m).v i = 0) (hs : ∀ y, Span (pts F) y ↔ Span (pts E) y) : clr F m = clr E m := by
  have hS : Sub fun y => Span (pts E) (Pt.less m 1 y) → True := ⟨fun _ => trivial, fun _ _ _ _ _ _ => trivial⟩
  -- both differ from m by something of the span
  have key : ∀ {G : List (Nat × Pt)} {x : Pt}, (∀ e ∈ G, Span (pts E) e.2) → ∃ s, Span (pts E) s ∧ clr G x = Pt.less x 1 s := by
    intro G
    induction G with
    | nil => intro x _; exact ⟨Pt.zero, Span.zero _, by rw [less_zero_right]; rfl⟩
    | cons e G ih =>
      intro x h
      obtain ⟨s, hs, e2⟩ := ih (x := Pt.less x (x.v e.1) e.2) fun f hf => h f (List.mem_cons_of_mem _ hf)
      refine ⟨Pt.less s (x.v e.1) e.2, Span.less _ hs (h e (List.mem_cons_self ..)), ?_⟩
      rw [clr_cons, e2]
      refine Pt.eqI (fun i => ?_) (fun i => ?_) <;> simp only [Pt.less, gm_one_left] <;> ac_rfl
  have mE : ∀ e ∈ E, Span (pts E) e.2 := fun e he => Span.mem (List.mem_map_of_mem he)
  have mF : ∀ e ∈ F, Span (pts E) e.2 := fun e he => (hs _).1 (Span.mem (List.mem_map_of_mem he))
  obtain ⟨s, s1, s2⟩ := key (x := m) mE
  obtain ⟨u, u1, u2⟩ := key (x := m) mF
  have hd : Span (pts E) (Pt.less (clr F m) 1 (clr E m)) := by
    have e : Pt.less (clr F m) 1 (clr E m) = Pt.less u 1 s := by
      rw [s2, u2]
      refine Pt.eqI (fun i => ?_) (fun i => ?_)
      · simp only [Pt.less, gm_one_left]
        rw [show m.v i ^^^ u.v i ^^^ (m.v i ^^^ s.v i) = u.v i ^^^ s.v i ^^^ m.v i ^^^ m.v i by ac_rfl, xor_cancel]
      · simp only [Pt.less, gm_one_left]
        rw [show m.d i ^^^ u.d i ^^^ (m.d i ^^^ s.d i) = u.d i ^^^ s.d i ^^^ m.d i ^^^ m.d i by ac_rfl, xor_cancel]
    rw [e]
    exact Span.less 1 u1 s1
  have h0 := hE.zero hd fun i hi => by
    show (clr F m).v i ^^^ gm 1 ((clr E m).v i) = 0
    rw [hz i hi, hz2 i (by rw [hl]; exact hi), gm_zero_right, UInt8.xor_self]
  have h3 := less_back2 (clr F m) 1 (clr E m)
  rw [h0] at h3
  rw [← h3]
  refine Pt.eqI (fun i => ?_) (fun i => ?_) <;> simp only [Pt.less, Pt.zero, gm_one_left, UInt8.zero_xor]
theorem Held8.rest {k t : Nat} {d : List RowL} {x : RowL} (h : Held8 k t d) (h1 : x.1.length = k) (h2 : x.2.length = t) : restL (rowsD d) x = restL (insAll d) x := by
  obtain ⟨b1, b2, b3, b4⟩ := back_good h.2.1
  obtain ⟨z1, z2⟩ := rest_len b1.1 x h1 h2
  obtain ⟨z3, z4⟩ := rest_len h.2.1.1 x h1 h2
  refine pt_inj (z1.trans z3.symm) (z2.trans z4.symm) ?_
  show pt (restL (backL (insAll d)) x) = _
  rw [pt_rest b1.1 h1 h2, pt_rest h.2.1.1 h1 h2]
  exact clr_same h.2.1.ech (fun i hi => h.2.1.ech.clr_zero h.2.1.2.2 i hi) b3 (fun i hi => b2.clr_zero i hi) b4
/-- One equation more, that grows the rank. -/
theorem Held8.snoc {k t : Nat} {d : List RowL} {x : RowL} (h : Held8 k t d) (h1 : x.1.length = k) (h2 : x.2.length = t) (h0 : 0 ≤ leadI (restL (rowsD d) x).1) : Held8 k t (d ++ [x]) ∧ growL (normR (restL (rowsD d) x)) (rowsD d) = rowsD (d ++ [x]) := by
  obtain ⟨i, hi⟩ : ∃ i : Nat, leadI (restL (rowsD d) x).1 = (i : Int) := ⟨_, (Int.toNat_of_nonneg h0).symm⟩
  have hi2 := hi
  rw [h.rest h1 h2] at hi2
  obtain ⟨e1, e2, e3⟩ := ins_yes h.2.1 h1 h2 hi2
  obtain ⟨g1, g2, g3⟩ := h.good
  have hT : Held8 k t (d ++ [x]) := by
    refine ⟨h.1.snoc h1 h2, by rw [insAll_snoc]; exact e2, fun y => ?_, ?_⟩
    · rw [insAll_snoc, e3, List.map_append, List.map_cons, List.map_nil, span_snoc]
      exact span_cons_congr h.2.2.1
    · rw [insAll_snoc, e1]
      simp only [List.length_append, List.length_take, List.length_drop, List.length_singleton]
      have := place_le (insAll d) i
      have := h.2.2.2
      omega
  refine ⟨hT, ?_⟩
  have hc := comes_of g1 g2 h1 h2 hi
  obtain ⟨q1, q2, q3⟩ := growL_good g1 g2 hc
  obtain ⟨r1, r2, r3⟩ := hT.good
  refine red_same q1 r1 q2 r2 fun y => ?_
  rw [q3, r3, List.map_append, List.map_cons, List.map_nil, span_snoc, pt_norm hi, pt_rest g1.1 h1 h2]
  refine Iff.trans (put_span (E := ledE (rowsD d)) (m := pt x) (ginv_ne ?_)) (span_cons_congr g3)
  rw [← pt_rest g1.1 h1 h2]
  exact (lead_fn_ne hi).1
/-- What the document's Put comes to. -/
def putD (d : List RowL) (x : RowL) : List RowL × Int := if 0 ≤ leadI (restL (rowsD d) x).1 then (d ++ [x], 0) else if zeroB (restL (rowsD d) x).2 then (d, 1) else (d, 2)
theorem Held8.put {k t : Nat} {d : List RowL} {x : RowL} (h : Held8 k t d) (h1 : x.1.length = k) (h2 : x.2.length = t) : Held8 k t (putD d x).1 ∧ putL (rowsD d) x = (rowsD (putD d x).1, (putD d x).2) := by
  unfold putD putL
  by_cases h0 : 0 ≤ leadI (restL (rowsD d) x).1
  · obtain ⟨a, b⟩ := h.snoc h1 h2 h0
    rw [if_pos h0, if_pos h0]
    exact ⟨a, by rw [b]⟩
  · rw [if_neg h0, if_neg h0]
    split
    · exact ⟨h, rfl⟩
    · exact ⟨h, rfl⟩
end Go.Proofs.Ytaidbcppecoenaa

/- The document's system: its rows, in the middle of being cleared. -/
namespace Go.Proofs.Ytaidbcppecoenaa
open Go.RowKit
set_option linter.unusedVariables false
set_option maxRecDepth 100000

end Go.Proofs.Ytaidbcppecoenaa

