import Derived.Test.YtaidbcppecoenaaElimI
import Derived.Test.YtaidbcppecoenaaGridF
import Derived.Test.YtaidbcppecoenaaR08D
import Derived.RegionTactic
import Derived.ChangeAlike
/- The statements of layer 8: Same. -/
namespace Go.Proofs.Ytaidbcppecoenaa
open Go.RowKit
set_option linter.unusedVariables false
set_option maxRecDepth 100000

end Go.Proofs.Ytaidbcppecoenaa

/- The statements of layer 8: Fit. -/
namespace Go.Proofs.Ytaidbcppecoenaa
open Go.RowKit
set_option linter.unusedVariables false
set_option maxRecDepth 100000

end Go.Proofs.Ytaidbcppecoenaa

/- ElimPuts: what goes along with a round. -/
namespace Go.Proofs.Ytaidbcppecoenaa
open Go.RowKit
set_option linter.unusedVariables false
set_option maxRecDepth 100000

theorem OwnR.chg {P : Nat → Prop} {w w' : World} {B : Nat} {v : Value} {L : List RowL} (h : OwnR w B v L) (hc : Chg P w w') (hp : Byteless w P) (hd : ∀ g, some g = v.ownBlock → ¬ P g) : OwnR w' B v L := by
  obtain ⟨xs, h1, h2, h3⟩ := h
  refine ⟨xs, ⟨h1.1, ?_⟩, h2, fun i r hi => ?_⟩
  · rcases h1.2 with h4 | ⟨g, cap, cur, rfl, hg, hh, h5⟩
    · exact .inl h4
    · exact .inr ⟨g, cap, cur, rfl, hg, (hc.block g (Blk.lt hh) (hd g rfl)).trans hh, h5⟩
  · obtain ⟨A1, n1, c1, A2, n2, c2, e0, e1, hr⟩ := h3 i r hi
    exact ⟨A1, n1, c1, A2, n2, c2, e0, e1, hr.chg hc hp⟩
theorem Sys.not_row {w : World} {p k t B : Nat} {L d : List RowL} {v dv : Value} (h : Sys w p k t L v) (ho : OwnR w B dv d) : ∀ g, some g = dv.ownBlock → ¬ Its p v g := by
  intro g hg hI
  obtain ⟨h1, ⟨xs, h2, _⟩, _⟩ := h
  obtain ⟨ys, o1, _⟩ := ho
  rcases o1.2 with ⟨rfl, _⟩ | ⟨g2, cap, cur, rfl, _, hh, _⟩
  · simp [Value.ownBlock] at hg
  · simp [Value.ownBlock] at hg
    subst hg
    rcases hI with rfl | hI
    · have h1' : w.heap[g]? = _ := h1
      rw [hh] at h1'
      injection h1' with h3
      injection h3 with _ h3
      exact absurd h3 (by decide)
    · rcases h2.2.2 with ⟨rfl, _⟩ | ⟨R, cap2, rfl, _, _, h5⟩
      · simp [Value.ownBlock] at hI
      · simp [Value.ownBlock] at hI
        subst hI
        have h5' : w.heap[g]? = _ := h5
        rw [hh] at h5'
        injection h5' with h3
        injection h3 with _ h3
        exact absurd h3 (by decide)
/-- What goes along with a round: the system, the document's equations, the equation at hand. -/
def Bun (w : World) (p k t : Nat) (L : List RowL) (v dv : Value) (d : List RowL) (xb : Nat) (A1 : Option Addr) (n1 c1 : Nat) (A2 : Option Addr) (n2 c2 : Nat) (x : RowL) (W : World) : Prop :=
  Sys W p k t L v ∧ OwnR W w.heap.size dv d ∧ Blk W xb 54 #[.slice A1 n1 c1, .slice A2 n2 c2] ∧ RowIs W x (.agg #[.slice A1 n1 c1, .slice A2 n2 c2]) ∧ Below w.heap.size w W
section
variable {w W W' : World} {p k t xb n1 c1 n2 c2 : Nat} {L d : List RowL} {v dv : Value} {A1 A2 : Option Addr} {x : RowL}
theorem Bun.step (h : Bun w p k t L v dv d xb A1 n1 c1 A2 n2 c2 x W) (hb : Below W.heap.size W W') : Bun w p k t L v dv d xb A1 n1 c1 A2 n2 c2 x W' := by
  obtain ⟨h1, h2, h3, h4, h5⟩ := h
  exact ⟨h1.step hb, h2.step hb, h3.below hb h3.lt, h4.step hb, bstep h5 hb⟩
/-- Something changes that is neither of the system nor of what goes along. -/
theorem Bun.other {P : Nat → Prop} (h : Bun w p k t L v dv d xb A1 n1 c1 A2 n2 c2 x W) (hc : Chg P W W') (hp : Byteless W P) (h1 : ∀ q, Its p v q → ¬ P q) (h2 : ∀ g, some g = dv.ownBlock → ¬ P g) (h3 : ¬ P xb) (h4 : ∀ q, P q → w.heap.size ≤ q) : Bun w p k t L v dv d xb A1 n1 c1 A2 n2 c2 x W' := by
  obtain ⟨k1, k2, k3, k4, k5⟩ := h
  exact ⟨k1.chg hc hp h1, k2.chg hc hp h2, k3.chg hc h3, k4.chg hc hp, k5.trans (hc.below k5.size h4)⟩
/-- An equation is put into the system. -/
theorem Bun.put {L' : List RowL} {v' : Value} (h : Bun w p k t L v dv d xb A1 n1 c1 A2 n2 c2 x W) (hs : Sys W' p k t L' v') (hc : Chg (Its p v) W W') (h3 : ¬ Its p v xb) (h4 : ∀ q, Its p v q → w.heap.size ≤ q) : Bun w p k t L' v' dv d xb A1 n1 c1 A2 n2 c2 x W' := by
  obtain ⟨k1, k2, k3, k4, k5⟩ := h
  have hp := k1.byteless
  exact ⟨hs, k2.chg hc hp (k1.not_row k2), k3.chg hc h3, k4.chg hc hp, k5.trans (hc.below k5.size h4)⟩
end
/-! ### A system of full rank -/
theorem rising_range {l : List Nat} {k : Nat} (h : l.Pairwise (· < ·)) (hl : l.length = k) (hb : ∀ i ∈ l, i < k) : l = List.range k := by
  refine rising_eq h List.pairwise_lt_range fun i => ⟨fun hi => List.mem_range.2 (hb i hi), fun hi => ?_⟩
  refine Classical.byContradiction fun hn => ?_
  have hk := List.mem_range.1 hi
  have h1 := List.Nodup.length_le_of_subset (l₂ := (List.range k).erase i) (rising_nodup h) fun j hj => by
    refine (List.mem_erase_of_ne ?_).2 (List.mem_range.2 (hb j hj))
    rintro rfl
    exact hn hj
  rw [List.length_erase_of_mem hi, List.length_range, hl] at h1
  omega
theorem full_lead {k t n : Nat} {L : List RowL} (h : Good k t L) (hl : L.length = k) (hn : n < k) : leadI (L[n]?.getD ([], [])).1 = (n : Int) := by
  have h1 := rising_range (k := k) h.2.2 (by simp [leads, ledE, hl]) fun i hi => by
    obtain ⟨e, he, rfl⟩ := mem_leads.1 hi
    obtain ⟨r, hr, rfl⟩ := led_mem.1 he
    obtain ⟨z1, _, z3⟩ := h.1 r hr
    have := lead_bounds r.1
    simp only
    omega
  have h2 := congrArg (fun l => l[n]?) h1
  simp only [List.getElem?_range hn] at h2
  have hnl : n < L.length := by omega
  obtain ⟨_, _, z3⟩ := h.1 L[n] (List.getElem_mem hnl)
  rw [List.getElem?_eq_getElem hnl, Option.getD_some]
  have h3 : (leads (ledE L))[n]? = some (leadI L[n].1).toNat := by
    simp [leads, ledE, hnl]
  rw [h3] at h2
  injection h2 with h2
  omega
end Go.Proofs.Ytaidbcppecoenaa

