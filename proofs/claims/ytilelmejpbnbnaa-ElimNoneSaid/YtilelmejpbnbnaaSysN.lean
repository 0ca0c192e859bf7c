import Derived.Test.YtilelmejpbnbnaaSysM
/- A system's rows, one more. -/
namespace Go.Proofs.Ytilelmejpbnbnaa
open Go.RowKit
set_option linter.unusedVariables false
set_option maxRecDepth 100000

/-- Each row less as much of a new one as it has where that leads. -/
def lessL (r : RowL) (L : List RowL) : List RowL := L.map fun o => lessAt o r (leadI r.1)
/-- A row more. -/
def growL (r : RowL) (L : List RowL) : List RowL := (lessL r L).take (placeL (lessL r L) (leadI r.1)) ++ [r] ++ (lessL r L).drop (placeL (lessL r L) (leadI r.1))
/-- A row that may come to these: it leads with a 1, where they have nothing, and has nothing where they lead. -/
def Comes (n m : Nat) (L : List RowL) (r : RowL) (i : Nat) : Prop := r.1.length = n ∧ r.2.length = m ∧ leadI r.1 = (i : Int) ∧ r.1[i]?.getD 0 = 1 ∧ ∀ j ∈ leads (ledE L), (pt r).v j = 0
theorem pt_lessAt {n m i : Nat} {o r : RowL} (h1 : o.1.length = n) (h2 : o.2.length = m) (h3 : r.1.length = n) (h4 : r.2.length = m) (hi : leadI r.1 = (i : Int)) : pt (lessAt o r (leadI r.1)) = Pt.less (pt o) ((pt o).v i) (pt r) := by
  rw [hi]
  unfold lessAt
  rw [pt_less _ (h3.trans h1.symm) (h4.trans h2.symm), atB_fn]
  rfl
theorem keeps_lead {n m i : Nat} {L : List RowL} {o r : RowL} (h : Good n m L) (ho : o ∈ L) (hr : Comes n m L r i) : leadI (lessAt o r (leadI r.1)).1 = leadI o.1 := by
  obtain ⟨r1, r2, r3, r4, r5⟩ := hr
  obtain ⟨o1, o2, o3⟩ := h.1 o ho
  obtain ⟨l, hl⟩ : ∃ l : Nat, leadI o.1 = (l : Int) := ⟨_, (Int.toNat_of_nonneg o3).symm⟩
  have hp := pt_lessAt o1 o2 r1 r2 r3
  obtain ⟨g1, g2, _⟩ := lead_fn_ne hl
  obtain ⟨k1, k2, _⟩ := lead_fn_ne r3
  have hz := r5 l (mem_leads.2 ⟨_, led_mem.2 ⟨o, ho, rfl⟩, by simp [hl]⟩)
  have hv : ∀ j, fn (lessAt o r (leadI r.1)).1 j = fn o.1 j ^^^ gm (fn o.1 i) (fn r.1 j) := fun j => by
    have := congrArg (fun q => q.v j) hp
    exact this
  rw [hl]
  refine lead_of_fn ?_ fun j hj => ?_
  · rw [hv, show fn r.1 l = 0 from hz, gm_zero_right, UInt8.xor_zero]
    exact g1
  · rw [hv, g2 j hj]
    by_cases hlt : i < l
    · rw [g2 i hlt, gm_zero_left]; rfl
    · rw [k2 j (by omega), gm_zero_right]; rfl
theorem led_lessL {n m i : Nat} {L : List RowL} {r : RowL} (h : Good n m L) (hr : Comes n m L r i) : ledE (lessL r L) = lessAll i (pt r) (ledE L) := by
  unfold ledE lessL lessAll
  rw [List.map_map, List.map_map]
  apply List.map_congr_left
  intro o ho
  obtain ⟨o1, o2, o3⟩ := h.1 o ho
  simp only [Function.comp_apply]
  rw [keeps_lead h ho hr, pt_lessAt o1 o2 hr.1 hr.2.1 hr.2.2.1]
theorem lessL_good {n m i : Nat} {L : List RowL} {r : RowL} (h : Good n m L) (hR : Red (ledE L)) (hr : Comes n m L r i) : Good n m (lessL r L) ∧ Red (ledE (lessL r L)) := by
  have hg := hR.grow (a := pt r) hr.2.2.2.2 (show (pt r).v i = 1 from hr.2.2.2.1) (fun j hj => (lead_fn_ne hr.2.2.1).2.1 j hj)
  have hE : Red (ledE (lessL r L)) := by
    rw [led_lessL h hr]
    exact ⟨hg.1.tail, fun e he f hf hne => hg.2 e (List.mem_cons_of_mem _ he) f (List.mem_cons_of_mem _ hf) hne⟩
  refine ⟨⟨fun o ho => ?_, fun o ho => ?_, ?_⟩, hE⟩
  · obtain ⟨q, hq, rfl⟩ := List.mem_map.1 ho
    obtain ⟨o1, o2, o3⟩ := h.1 q hq
    obtain ⟨z1, z2⟩ := lessAt_len (r := q) (o := r) (i := leadI r.1) (by rw [hr.1, o1]) (by rw [hr.2.1, o2])
    exact ⟨z1.trans o1, z2.trans o2, by rw [keeps_lead h hq hr]; exact o3⟩
  · exact (hE.1.1 _ (led_mem.2 ⟨o, ho, rfl⟩)).1
  · unfold Rising
    rw [led_lessL h hr, lessAll_leads]
    exact h.2.2
theorem growL_good {n m i : Nat} {L : List RowL} {r : RowL} (h : Good n m L) (hR : Red (ledE L)) (hr : Comes n m L r i) : Good n m (growL r L) ∧ Red (ledE (growL r L)) ∧ ∀ y, Span (pts (ledE (growL r L))) y ↔ Span (pt r :: pts (ledE L)) y := by
  obtain ⟨h1, h2⟩ := lessL_good h hR hr
  have hg := hR.grow (a := pt r) hr.2.2.2.2 (show (pt r).v i = 1 from hr.2.2.2.1) (fun j hj => (lead_fn_ne hr.2.2.1).2.1 j hj)
  have hnew : i ∉ leads (ledE L) := fun hi => by
    have := hr.2.2.2.2 i hi
    rw [show (pt r).v i = 1 from hr.2.2.2.1] at this
    exact one_ne this
  have hnew' : i ∉ leads (ledE (lessL r L)) := by rw [led_lessL h hr, lessAll_leads]; exact hnew
  have e2 : ∀ M : List RowL, ledE (r :: M) = (i, pt r) :: ledE M := fun M => by simp [ledE, hr.2.2.1]
  have eg : ledE (growL r L) = ledE ((lessL r L).take (placeL (lessL r L) i)) ++ (i, pt r) :: ledE ((lessL r L).drop (placeL (lessL r L) i)) := by
    unfold growL
    rw [hr.2.2.1, List.append_assoc, List.singleton_append, led_append, e2]
  have hperm : (ledE (growL r L)).Perm ((i, pt r) :: lessAll i (pt r) (ledE L)) := by
    rw [eg]
    refine (mid_perm _ _ _).trans ?_
    rw [← led_append, List.take_append_drop, led_lessL h hr]
  have hRed : Red (ledE (growL r L)) := hg.perm hperm.symm
  refine ⟨⟨fun o ho => ?_, fun o ho => (hRed.1.1 _ (led_mem.2 ⟨o, ho, rfl⟩)).1, ?_⟩, hRed, fun y => ?_⟩
  · unfold growL at ho
    simp only [List.mem_append, List.mem_singleton] at ho
    rcases ho with (ho | rfl) | ho
    · exact h1.1 o (List.mem_of_mem_take ho)
    · exact ⟨hr.1, hr.2.1, by rw [hr.2.2.1]; omega⟩
    · exact h1.1 o (List.mem_of_mem_drop ho)
  · rw [eg]
    refine rising_mid ?_ (fun f hf => ?_) (fun f hf => ?_)
    · rw [← led_append, List.take_append_drop]; exact h1.2.2
    · obtain ⟨q, hq, rfl⟩ := led_mem.1 hf
      have h3 := place_take q hq
      have h4 := (h1.1 q (List.mem_of_mem_take hq)).2.2
      simp only
      omega
    · obtain ⟨q, hq, rfl⟩ := led_mem.1 hf
      have h3 := place_drop (fun o ho => (h1.1 o ho).2.2) h1.2.2 q hq
      have h4 : (leadI q.1).toNat ≠ i := fun h5 => hnew' (mem_leads.2 ⟨_, led_mem.2 ⟨q, List.mem_of_mem_drop hq, rfl⟩, h5⟩)
      simp only
      omega
  · have hpp : Span (pts (ledE (growL r L))) y ↔ Span (pts ((i, pt r) :: lessAll i (pt r) (ledE L))) y := Span.perm (hperm.map _)
    rw [hpp, grow_span]
end Go.Proofs.Ytilelmejpbnbnaa
