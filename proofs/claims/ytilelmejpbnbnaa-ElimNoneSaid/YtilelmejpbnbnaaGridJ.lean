import Derived.Test.YtilelmejpbnbnaaGridI
/- Full stairs: what they carry, once each is 0 but for the 1 with which it leads. -/
namespace Go.Proofs.Ytilelmejpbnbnaa
open Go.RowKit
set_option linter.unusedVariables false
set_option maxRecDepth 100000

/-! ### Rows made in any order -/
def FilledAt (w : World) (g n : Nat) (f : Nat → Option (List UInt8)) : Prop :=
  ∃ cs : List Value, cs.length = n ∧ Blk w g 52 cs.toArray ∧ (∀ v ∈ cs, IsSl v) ∧ ∀ i, i < n → ∀ us, f i = some us → ∃ A c, cs[i]? = some (.slice A us.length c) ∧ Rd w w.heap.size A us.length us
theorem FilledAt.lt {w : World} {g n : Nat} {f : Nat → Option (List UInt8)} (h : FilledAt w g n f) : g < w.heap.size := by
  obtain ⟨cs, _, h2, _⟩ := h
  exact h2.lt
theorem FilledAt.new (w : World) (n : Nat) : FilledAt (w.alloc (.cells (nils n).toArray 52)) w.heap.size n fun _ => none := by
  refine ⟨nils n, by simp [nils], Blk.new _ _ _, ?_, fun i _ us h => by simp at h⟩
  intro v hv
  simp only [nils, List.mem_replicate] at hv
  exact ⟨_, _, _, hv.2⟩
theorem FilledAt.step {w w' : World} {g n : Nat} {f : Nat → Option (List UInt8)} (h : FilledAt w g n f) (hb : Below w.heap.size w w') : FilledAt w' g n f := by
  obtain ⟨cs, h1, h2, h3, h5⟩ := h
  refine ⟨cs, h1, h2.below hb h2.lt, h3, fun i hi us hu => ?_⟩
  obtain ⟨A, c, h6, h7⟩ := h5 i hi us hu
  exact ⟨A, c, h6, h7.step hb⟩
theorem FilledAt.cell {w : World} {g n k : Nat} {f : Nat → Option (List UInt8)} (h : FilledAt w g n f) (hk : k < n) : (∃ A m c, w.cell? ⟨g, k, none⟩ = some (.slice A m c)) ∧ w.frozen? ⟨g, k, none⟩ = false := by
  obtain ⟨cs, h1, h2, h3, _⟩ := h
  refine ⟨?_, h2.frozen k⟩
  rw [h2.cell k]
  have hk' : k < cs.length := by omega
  obtain ⟨A, m, c, e⟩ := h3 cs[k] (List.getElem_mem hk')
  exact ⟨A, m, c, by simp [hk', e]⟩
def updF (f : Nat → Option (List UInt8)) (i : Nat) (us : List UInt8) : Nat → Option (List UInt8) := fun j => if j = i then some us else f j
theorem FilledAt.put {w : World} {g n c k m : Nat} {A : Option Addr} {us : List UInt8} {f : Nat → Option (List UInt8)} (h : FilledAt w g n f) (hkn : k < n) (hm : us.length = m) (hr : Rd w w.heap.size A m us) :
    FilledAt (w.setCell ⟨g, k, none⟩ (.slice A m c)) g n (updF f k us) := by
  subst hm
  obtain ⟨cs, h1, h2, h3, h5⟩ := h
  have hs : (w.setCell ⟨g, k, none⟩ (.slice A us.length c)).heap.size = w.heap.size := by simp [World.setCell]
  have hset : Blk (w.setCell ⟨g, k, none⟩ (.slice A us.length c)) g 52 (cs.set k (.slice A us.length c)).toArray := by
    have := h2.set k (.slice A us.length c)
    simpa using this
  refine ⟨cs.set k (.slice A us.length c), by simpa using h1, hset, ?_, fun i hi us' hu => ?_⟩
  · intro v hv
    rcases List.mem_or_eq_of_mem_set hv with hv | rfl
    · exact h3 v hv
    · exact ⟨_, _, _, rfl⟩
  · rw [hs]
    by_cases hik : i = k
    · subst hik
      simp only [updF, if_true] at hu
      injection hu with hu
      subst hu
      exact ⟨A, c, by rw [List.getElem?_set_self (by omega)], hr.far h2 (NoBytes.sl h3) fun p hp => World.cell?_setCell_far _ _ _ _ (fun e => hp e.symm)⟩
    · simp only [updF, if_neg hik] at hu
      obtain ⟨A', c', h6, h7⟩ := h5 i hi us' hu
      exact ⟨A', c', by rw [List.getElem?_set_ne (Ne.symm hik)]; exact h6, h7.far h2 (NoBytes.sl h3) fun p hp => World.cell?_setCell_far _ _ _ _ (fun e => hp e.symm)⟩
/-! ### What the stairs are, from the last one up -/
end Go.Proofs.Ytilelmejpbnbnaa
