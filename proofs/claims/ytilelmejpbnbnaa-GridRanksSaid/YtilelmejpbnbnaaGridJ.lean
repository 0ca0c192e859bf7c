import Derived.Test.YtilelmejpbnbnaaGridI
/- Full stairs: what they carry, once each is 0 but for the 1 with which it leads. -/
namespace Go.Proofs.Ytilelmejpbnbnaa
open Go.RowKit
set_option linter.unusedVariables false
set_option maxRecDepth 100000

/-! ### Rows made in any order -/
def FilledAt (w : World) (g n : Nat) (f : Nat → Option (List UInt8)) : Prop :=
  ∃ cs : List Value, cs.length = n ∧ Blk w g 52 cs.toArray ∧ (∀ v ∈ cs, IsSl v) ∧ ∀ i, i < n → ∀ us, f i = some us → ∃ A c, cs[i]? = some (.slice A us.length c) ∧ Rd w w.heap.size A us.length us
theorem FilledAt.lt {w : World} {g n : Nat} {f : Nat → Option (List UInt8)} (h : FilledAt w g n f) : g < w.heap.size := by
  obtain ⟨cs, _, h2, _⟩ := h
  exact h2.lt
theorem FilledAt.new (w : World) (n : Nat) : FilledAt (w.alloc (.cells (nils n).toArray 52)) w.heap.size n fun _ => none := by
  refine ⟨nils n, by simp [nils], Blk.new _ _ _, ?_, fun i _ us h => by simp at h⟩
  intro v hv
  simp only [nils, List.mem_replicate] at hv
  exact ⟨_, _, _, hv.2⟩
theorem FilledAt.step {w w' : World} {g n : Nat} {f : Nat → Option (List UInt8)} (h : FilledAt w g n f) (hb : Below w.heap.size w w') : FilledAt w' g n f := by
  obtain ⟨cs, h1, h2, h3, h5⟩ := h
  refine ⟨cs, h1, h2.below hb h2.lt, h3, fun i hi us hu => ?_⟩
  obtain ⟨A, c, h6, h7⟩ := h5 i hi us hu
  exact ⟨A, c, h6, h7.step hb⟩
theorem FilledAt.far2 {w : World} {g n h : Nat} {f : Nat → Option (List UInt8)} {T : TypeId} {cs : Array Value} {i j : Nat} {x y : Value} (hF : FilledAt w g n f) (hh : Blk w h T cs) (hn : NoBytes cs) (hne : g ≠ h) : FilledAt ((w.setCell ⟨h, i, none⟩ x).setCell ⟨h, j, none⟩ y) g n f := by
  obtain ⟨cs', h1, h2, h3, h4⟩ := hF
  have hs : ((w.setCell ⟨h, i, none⟩ x).setCell ⟨h, j, none⟩ y).heap.size = w.heap.size := by simp [World.setCell]
  refine ⟨cs', h1, (h2.far (p := (⟨h, i, none⟩ : Addr)) hne x).far (p := (⟨h, j, none⟩ : Addr)) hne y, h3, fun k hk us hu => ?_⟩
  obtain ⟨A, c, e1, e2⟩ := h4 k hk us hu
  exact ⟨A, c, e1, (e2.setTwo hh hn).more (by rw [hs]; exact Nat.le_refl _)⟩
theorem FilledAt.cell {w : World} {g n k : Nat} {f : Nat → Option (List UInt8)} (h : FilledAt w g n f) (hk : k < n) : (∃ A m c, w.cell? ⟨g, k, none⟩ = some (.slice A m c)) ∧ w.frozen? ⟨g, k, none⟩ = false := by
  obtain ⟨cs, h1, h2, h3, _⟩ := h
  refine ⟨?_, h2.frozen k⟩
  rw [h2.cell k]
  have hk' : k < cs.length := by omega
  obtain ⟨A, m, c, e⟩ := h3 cs[k] (List.getElem_mem hk')
  exact ⟨A, m, c, by simp [hk', e]⟩
def updF (f : Nat → Option (List UInt8)) (i : Nat) (us : List UInt8) : Nat → Option (List UInt8) := fun j => if j = i then some us else f j
theorem FilledAt.put {w : World} {g n c k m : Nat} {A : Option Addr} {us : List UInt8} {f : Nat → Option (List UInt8)} (h : FilledAt w g n f) (hkn : k < n) (hm : us.length = m) (hr : Rd w w.heap.size A m us) :
    FilledAt (w.setCell ⟨g, k, none⟩ (.slice A m c)) g n (updF f k us) := by
  subst hm
  obtain ⟨cs, h1, h2, h3, h5⟩ := h
  have hs : (w.setCell ⟨g, k, none⟩ (.slice A us.length c)).heap.size = w.heap.size := by simp [World.setCell]
  have hset : Blk (w.setCell ⟨g, k, none⟩ (.slice A us.length c)) g 52 (cs.set k (.slice A us.length c)).toArray := by
    have := h2.set k (.slice A us.length c)
    simpa using this
  refine ⟨cs.set k (.slice A us.length c), by simpa using h1, hset, ?_, fun i hi us' hu => ?_⟩
  · intro v hv
    rcases List.mem_or_eq_of_mem_set hv with hv | rfl
    · exact h3 v hv
    · exact ⟨_, _, _, rfl⟩
  · rw [hs]
    by_cases hik : i = k
    · subst hik
      simp only [updF, if_true] at hu
      injection hu with hu
      subst hu
      exact ⟨A, c, by rw [List.getElem?_set_self (by omega)], hr.far h2 (NoBytes.sl h3) fun p hp => World.cell?_setCell_far _ _ _ _ (fun e => hp e.symm)⟩
    · simp only [updF, if_neg hik] at hu
      obtain ⟨A', c', h6, h7⟩ := h5 i hi us' hu
      exact ⟨A', c', by rw [List.getElem?_set_ne (Ne.symm hik)]; exact h6, h7.far h2 (NoBytes.sl h3) fun p hp => World.cell?_setCell_far _ _ _ _ (fun e => hp e.symm)⟩
theorem FilledAt.rds {w : World} {g n : Nat} {f : Nat → Option (List UInt8)} {rows : List (List UInt8)} (h : FilledAt w g n f) (hn : rows.length = n) (hf : ∀ i us, rows[i]? = some us → f i = some us) : Rds w w.heap.size (some ⟨g, 0, none⟩) n rows := by
  obtain ⟨cs, h1, h2, h3, h5⟩ := h
  refine ⟨hn, fun hp => ⟨g, 0, rfl, h2.lt, fun i us hu => ?_⟩⟩
  obtain ⟨A, c, h6, h7⟩ := h5 i (by have := (List.getElem?_eq_some_iff.1 hu).1; omega) us (hf i us hu)
  refine ⟨A, c, ?_, h7⟩
  rw [Nat.zero_add, h2.cell i]
  simpa using h6

/-! ### What the stairs are, from the last one up -/
/-- Behind L: each leads at its place with a 1, and is 0 at all places from L on but that; row by row it lies in whatever held all. -/
def Upto (P : (Pt → Prop) → Prop) (n m L : Nat) (st : Nat → Option RowL) : Prop :=
  ∀ i, i < n → ∃ r, st i = some r ∧ r.1.length = n ∧ r.2.length = m ∧ (pt r).v i = 1 ∧ (∀ j, j < i → (pt r).v j = 0) ∧ (∀ j, L ≤ j → j ≠ i → (pt r).v j = 0) ∧ ∀ S, P S → S (pt r)
/-- The same, with place l cleared in the first i rows. -/
def Inner (P : (Pt → Prop) → Prop) (n m l k : Nat) (st : Nat → Option RowL) : Prop :=
  ∀ i, i < n → ∃ r, st i = some r ∧ r.1.length = n ∧ r.2.length = m ∧ (pt r).v i = 1 ∧ (∀ j, j < i → (pt r).v j = 0) ∧ (∀ j, l + 1 ≤ j → j ≠ i → (pt r).v j = 0) ∧ (i < k → i ≠ l → (pt r).v l = 0) ∧ ∀ S, P S → S (pt r)
theorem Upto.inner {P : (Pt → Prop) → Prop} {n m l : Nat} {st : Nat → Option RowL} (h : Upto P n m (l + 1) st) : Inner P n m l 0 st := fun i hi => by
  obtain ⟨r, h1, h2, h3, h4, h5, h6, h7⟩ := h i hi
  exact ⟨r, h1, h2, h3, h4, h5, h6, fun h => by omega, h7⟩
theorem Inner.done {P : (Pt → Prop) → Prop} {n m l : Nat} {st : Nat → Option RowL} (h : Inner P n m l l st) : Upto P n m l st := fun i hi => by
  obtain ⟨r, h1, h2, h3, h4, h5, h6, h7, h8⟩ := h i hi
  refine ⟨r, h1, h2, h3, h4, h5, fun j hj hne => ?_, h8⟩
  by_cases hjl : j = l
  · subst hjl
    by_cases hij : i < j
    · exact h7 hij (by omega)
    · exact h5 j (by omega)
  · exact h6 j (by omega) hne
theorem Inner.next {P : (Pt → Prop) → Prop} (hP : ∀ S, P S → Sub S) {n m l k : Nat} {st : Nat → Option RowL} (h : Inner P n m l k st) (hk : k < l) (hl : l < n) {r o : RowL} (hr : st k = some r) (ho : st l = some o) : Inner P n m l (k + 1) (upd st k (lessAt r o l)) := by
  obtain ⟨r', e1, r2, r3, r4, r5, r6, r7, r8⟩ := h k (by omega)
  rw [hr] at e1
  injection e1 with e1
  subst e1
  obtain ⟨o', e1, o2, o3, o4, o5, o6, o7, o8⟩ := h l hl
  rw [ho] at e1
  injection e1 with e1
  subst e1
  have hlen := lessAt_len (r := r) (o := o) (i := (l : Int)) (by omega) (by omega)
  have hp : pt (lessAt r o (l : Int)) = (pt r).less ((pt r).v l) (pt o) := by
    unfold lessAt
    rw [pt_less _ (by omega) (by omega), atB_fn]
    rfl
  intro i hi
  by_cases hik : i = k
  · subst hik
    refine ⟨lessAt r o l, by simp [upd], by omega, by omega, ?_, fun j hj => ?_, fun j hj hne => ?_, fun _ _ => ?_, fun S hS => ?_⟩
    · rw [hp]
      show (pt r).v i ^^^ gm _ ((pt o).v i) = 1
      rw [o5 i hk, gm_zero_right, UInt8.xor_zero, r4]
    · rw [hp]
      show (pt r).v j ^^^ gm _ ((pt o).v j) = 0
      rw [o5 j (by omega), r5 j hj, gm_zero_right]; rfl
    · rw [hp]
      show (pt r).v j ^^^ gm _ ((pt o).v j) = 0
      rw [o6 j hj (by omega), r6 j hj hne, gm_zero_right]; rfl
    · rw [hp]
      show (pt r).v l ^^^ gm _ ((pt o).v l) = 0
      rw [o4, gm_one_right, UInt8.xor_self]
    · rw [hp]
      exact (hP S hS).2 _ _ _ (r8 S hS) (o8 S hS)
  · obtain ⟨s, s1, s2, s3, s4, s5, s6, s7, s8⟩ := h i hi
    exact ⟨s, by simp [upd, hik, s1], s2, s3, s4, s5, s6, fun hlt hne => s7 (by omega) hne, s8⟩
/-- What the row at place i carries, when all is cleared. -/
theorem Upto.unit {P : (Pt → Prop) → Prop} {n m : Nat} {st : Nat → Option RowL} (h : Upto P n m 0 st) {i : Nat} (hi : i < n) : ∃ r, st i = some r ∧ r.2.length = m ∧ r.1 = unitL n i ∧ ∀ S, P S → S (pt r) := by
  obtain ⟨r, h1, h2, h3, h4, h5, h6, h7⟩ := h i hi
  refine ⟨r, h1, h3, ?_, h7⟩
  refine fn_inj (by rw [h2, unitL_length]) ?_
  funext j
  by_cases hji : j = i
  · subst hji
    have : fn r.1 j = 1 := h4
    rw [this]
    unfold fn unitL nulls
    rw [List.getElem?_set_self (by simpa using hi)]; rfl
  · have : fn r.1 j = 0 := h6 j (by omega) hji
    rw [this]
    unfold fn unitL nulls
    rw [List.getElem?_set_ne (Ne.symm hji), List.getElem?_replicate]
    split <;> rfl
end Go.Proofs.Ytilelmejpbnbnaa
