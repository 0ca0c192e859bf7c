import Derived.Test.YtaidbcppecoenaaGridF
import Derived.Test.YtaidbcppecoenaaWas
import Derived.StillTailTactics
import Derived.Test.YtaidbcppecoenaaConv
/- grid.Mul. -/
namespace Go.Proofs.Ytaidbcppecoenaa
open Go.RowKit
set_option linter.unusedVariables false
set_option maxRecDepth 100000

theorem addL_none (us ss : List UInt8) : addL 0 us ss = ss := by
  unfold addL addTo
  apply List.ext_getElem?
  intro i
  rw [List.getElem?_mapIdx]
  cases h : ss[i]? with
  | none => rfl
  | some s => simp [gm_zero_left]
end Go.Proofs.Ytaidbcppecoenaa

/- Full stairs: what they carry, once each is 0 but for the 1 with which it leads. -/
namespace Go.Proofs.Ytaidbcppecoenaa
open Go.RowKit
set_option linter.unusedVariables false
set_option maxRecDepth 100000

/-! ### Rows made in any order -/
def FilledAt (w : World) (g n : Nat) (f : Nat → Option (List UInt8)) : Prop :=
  ∃ cs : List Value, cs.length = n ∧ Blk w g 52 cs.toArray ∧ (∀ v ∈ cs, IsSl v) ∧ ∀ i, i < n → ∀ us, f i = some us → ∃ A c, cs[i]? = some (.slice A us.length c) ∧ Rd w w.heap.size A us.length us
theorem FilledAt.lt {w : World} {g n : Nat} {f : Nat → Option (List UInt8)} (h : FilledAt w g n f) : g < w.heap.size := by
  obtain ⟨cs, _, h2, _⟩ := h
  exact h2.lt
theorem FilledAt.new (w : World) (n : Nat) : FilledAt (w.alloc (.cells (nils n).toArray 52)) w.heap.size n fun _ => none := by
  refine ⟨nils n, by simp [nils], Blk.new _ _ _, ?_, fun i _ us h => by simp at h⟩
  intro v hv
  simp only [nils, List.mem_replicate] at hv
  exact ⟨_, _, _, hv.2⟩
theorem FilledAt.step {w w' : World} {g n : Nat} {f : Nat → Option (List UInt8)} (h : FilledAt w g n f) (hb : Below w.heap.size w w') : FilledAt w' g n f := by
  obtain ⟨cs, h1, h2, h3, h5⟩ := h
  refine ⟨cs, h1, h2.below hb h2.lt, h3, fun i hi us hu => ?_⟩
  obtain ⟨A, c, h6, h7⟩ := h5 i hi us hu
  exact ⟨A, c, h6, h7.step hb⟩
theorem FilledAt.far2 {w : World} {g n h : Nat} {f : Nat → Option (List UInt8)} {T : TypeId} {cs : Array Value} {i j : Nat} {x y : Value} (hF : FilledAt w g n f) (hh : Blk w h T cs) (hn : NoBytes cs) (hne : g ≠ h) : FilledAt ((w.setCell ⟨h, i, none⟩ x).setCell ⟨h, j, none⟩ y) g n f := by
  obtain ⟨cs', h1, h2, h3, h4⟩ := hF
  have hs : ((w.setCell ⟨h, i, none⟩ x).setCell ⟨h, j, none⟩ y).heap.size = w.heap.size := by simp [World.setCell]
  refine ⟨cs', h1, (h2.far (p := (⟨h, i, none⟩ : Addr)) hne x).far (p := (⟨h, j, none⟩ : Addr)) hne y, h3, fun k hk us hu => ?_⟩
  obtain ⟨A, c, e1, e2⟩ := h4 k hk us hu
  exact ⟨A, c, e1, (e2.setTwo hh hn).more (by rw [hs]; exact Nat.le_refl _)⟩
theorem FilledAt.cell {w : World} {g n k : Nat} {f : Nat → Option (List UInt8)} (h : FilledAt w g n f) (hk : k < n) : (∃ A m c, w.cell? ⟨g, k, none⟩ = some (.slice A m c)) ∧ w.frozen? ⟨g, k, none⟩ = false := by
  obtain ⟨cs, h1, h2, h3, _⟩ := h
  refine ⟨?_, h2.frozen k⟩
  rw [h2.cell k]
  have hk' : k < cs.length := by omega
  obtain ⟨A, m, c, e⟩ := h3 cs[k] (List.getElem_mem hk')
  exact ⟨A, m, c, by simp [hk', e]⟩
def updF (f : Nat → Option (List UInt8)) (i : Nat) (us : List UInt8) : Nat → Option (List UInt8) := fun j => if j = i then some us else f j
theorem FilledAt.put {w : World} {g n c k m : Nat} {A : Option Addr} {us : List UInt8} {f : Nat → Option (List UInt8)} (h : FilledAt w g n f) (hkn : k < n) (hm : us.length = m) (hr : Rd w w.heap.size A m us) :
    FilledAt (w.setCell ⟨g, k, none⟩ (.slice A m c)) g n (updF f k us) := by
  subst hm
  obtain ⟨cs, h1, h2, h3, h5⟩ := h
  have hs : (w.setCell ⟨g, k, none⟩ (.slice A us.length c)).heap.size = w.heap.size := by simp [World.setCell]
  have hset : Blk (w.setCell ⟨g, k, none⟩ (.slice A us.length c)) g 52 (cs.set k (.slice A us.length c)).toArray := by
    have := h2.set k (.slice A us.length c)
    simpa using this
  refine ⟨cs.set k (.slice A us.length c), by simpa using h1, hset, ?_, fun i hi us' hu => ?_⟩
  · intro v hv
    rcases List.mem_or_eq_of_mem_set hv with hv | rfl
    · exact h3 v hv
    · exact ⟨_, _, _, rfl⟩
  · rw [hs]
    by_cases hik : i = k
    · subst hik
      simp only [updF, if_true] at hu
      injection hu with hu
      subst hu
      exact ⟨A, c, by rw [List.getElem?_set_self (by omega)], hr.far h2 (NoBytes.sl h3) fun p hp => World.cell?_setCell_far _ _ _ _ (fun e => hp e.symm)⟩
    · simp only [updF, if_neg hik] at hu
      obtain ⟨A', c', h6, h7⟩ := h5 i hi us' hu
      exact ⟨A', c', by rw [List.getElem?_set_ne (Ne.symm hik)]; exact h6, h7.far h2 (NoBytes.sl h3) fun p hp => World.cell?_setCell_far _ _ _ _ (fun e => hp e.symm)⟩
theorem FilledAt.rds {w : World} {g n : Nat} {f : Nat → Option (List UInt8)} {rows : List (List UInt8)} (h : FilledAt w g n f) (hn : rows.length = n) (hf : ∀ i us, rows[i]? = some us → f i = some us) : Rds w w.heap.size (some ⟨g, 0, none⟩) n rows := by
  obtain ⟨cs, h1, h2, h3, h5⟩ := h
  refine ⟨hn, fun hp => ⟨g, 0, rfl, h2.lt, fun i us hu => ?_⟩⟩
  obtain ⟨A, c, h6, h7⟩ := h5 i (by have := (List.getElem?_eq_some_iff.1 hu).1; omega) us (hf i us hu)
  refine ⟨A, c, ?_, h7⟩
  rw [Nat.zero_add, h2.cell i]
  simpa using h6

/-! ### What the stairs are, from the last one up -/
end Go.Proofs.Ytaidbcppecoenaa

/- carried: its walk. -/
namespace Go.Proofs.Ytaidbcppecoenaa
open Go.RowKit
set_option linter.unusedVariables false
set_option maxRecDepth 100000

def Kept (n L : Nat) (st : Nat → Option RowL) (f : Nat → Option (List UInt8)) : Prop := ∀ i, L ≤ i → i < n → f i = (st i).map Prod.snd
theorem Kept.upd {n L k : Nat} {st : Nat → Option RowL} {f : Nat → Option (List UInt8)} {r : RowL} (h : Kept n L st f) (hk : k < L) : Kept n L (upd st k r) f := fun i h1 h2 => by
  rw [h i h1 h2]
  unfold Go.Proofs.Ytaidbcppecoenaa.upd
  rw [if_neg (by omega)]
theorem Kept.put {n l : Nat} {st : Nat → Option RowL} {f : Nat → Option (List UInt8)} {r : RowL} (h : Kept n (l + 1) st f) (hr : st l = some r) : Kept n l st (updF f l r.2) := fun i h1 h2 => by
  unfold updF
  by_cases hil : i = l
  · subst hil; rw [if_pos rfl, hr]; rfl
  · rw [if_neg hil, h i (by omega) h2]
end Go.Proofs.Ytaidbcppecoenaa

/- grid.Inverse. -/
namespace Go.Proofs.Ytaidbcppecoenaa
open Go.RowKit
set_option linter.unusedVariables false
set_option maxRecDepth 100000

/-! ### Rows, each with its unit -/
def pairs (n : Nat) (rows : List (List UInt8)) : List Pt := (List.range n).map fun i => pt (rows[i]?.getD [], unitL n i)
def InvSo (st : Nat → Option RowL) (n k : Nat) (rows : List (List UInt8)) : Prop := ∃ E, StE st E ∧ Ech E ∧ E.length = k ∧ Sized st n n ∧ ∀ m, Span (pts E) m ↔ Span ((pairs n rows).take k) m
theorem InvSo.start (n : Nat) (rows : List (List UInt8)) : InvSo (fun _ => none) n 0 rows := ⟨[], StE.nil, Ech.nil, rfl, Sized.nil _ _, fun m => Iff.rfl⟩
theorem InvSo.yes {st : Nat → Option RowL} {n k i : Nat} {rows : List (List UInt8)} {us : List UInt8} {x : RowL} (h : InvSo st n k rows) (hk : k < n) (hu : rows[k]?.getD [] = us) (h1 : us.length = n) (hC : Came st (us, unitL n k) x) (hi : leadI x.1 = (i : Int)) (e : st i = none) : InvSo (upd st i (normR x)) n (k + 1) rows := by
  obtain ⟨E, e1, e2, e3, e4, e5⟩ := h
  obtain ⟨f1, f2, f3, f4⟩ := e1.put e4 e2 (r := (us, unitL n k)) h1 (unitL_length _ _) hC hi e
  refine ⟨_, f1, f3, by simp [e3], f2, fun m => ?_⟩
  have ht : (pairs n rows)[k]? = some (pt (us, unitL n k)) := by simp [pairs, hk, hu]
  rw [f4, take_snoc ht, span_snoc, ← span_cons_congr e5]
/-- Where a row adds nothing, the rank is less than there are rows. -/
theorem InvSo.no {st : Nat → Option RowL} {n k r : Nat} {rows : List (List UInt8)} {us : List UInt8} {x : RowL} (h : InvSo st n k rows) (hk : k < n) (hn : rows.length = n) (hu : rows[k]?.getD [] = us) (h1 : us.length = n) (hC : Came st (us, unitL n k) x) (hi : leadI x.1 < 0) (hr : Rk (rows.map pt0) r) : r < n := by
  obtain ⟨E, e1, e2, e3, e4, e5⟩ := h
  have hsv : ∀ L : List Pt, Sub fun m => ∃ u, Span L u ∧ u.v = m.v := fun L => ⟨⟨Pt.zero, Span.zero _, rfl⟩, fun m c o ⟨u, u1, u2⟩ ⟨v, v1, v2⟩ => ⟨Pt.less u c v, Span.less c u1 v1, by
    funext j
    show u.v j ^^^ gm c (v.v j) = m.v j ^^^ gm c (o.v j)
    rw [u2, v2]⟩⟩
  have hx := (came_span e1 e4 (r := (us, unitL n k)) h1 (unitL_length _ _) hC (hsv (pts E)) fun f hf => ⟨f.2, pts_mem hf, rfl⟩).1 ⟨Pt.zero, Span.zero _, by funext j; exact (lead_fn_none hi j).symm⟩
  obtain ⟨u, u1, u2⟩ := hx
  replace u1 := (e5 _).1 u1
  have hkl : k < rows.length := by omega
  let L := (rows.take k ++ rows.drop (k + 1)).map pt0
  have hLl : L.length = n - 1 := by simp [L]; omega
  obtain ⟨t, t1, t2⟩ := Rk.exists (L := L) fun a ha => by
    obtain ⟨r, _, rfl⟩ := List.mem_map.1 ha
    exact pt0_d r
  have hmem : ∀ i, i < n → i ≠ k → pt0 (rows[i]?.getD []) ∈ L := fun i hi2 hne => by
    refine List.mem_map_of_mem ?_
    have hil : i < rows.length := by omega
    rw [List.getElem?_eq_getElem hil, Option.getD_some]
    rcases Nat.lt_or_gt_of_ne hne with hlt | hgt
    · exact List.mem_append_left _ (List.mem_take_iff_getElem.2 ⟨i, by omega, rfl⟩)
    · refine List.mem_append_right _ ?_
      rw [List.mem_drop_iff_getElem]
      exact ⟨i - (k + 1), by omega, by congr 1; omega⟩
  have hle := hr.le t2 fun a ha => by
    obtain ⟨s, hs, rfl⟩ := List.mem_map.1 ha
    obtain ⟨i, hil, rfl⟩ := List.getElem_of_mem hs
    by_cases hik : i = k
    · subst hik
      have hg : rows[i] = us := by rw [← hu, List.getElem?_eq_getElem hil]; rfl
      obtain ⟨m', m1, m2⟩ := Span.least (hsv L) (fun a ha => by
        obtain ⟨j, hj, rfl⟩ := List.getElem_of_mem ha
        have hj2 : j < i := by simp [pairs] at hj; omega
        refine ⟨_, Span.mem (hmem j (by omega) (by omega)), ?_⟩
        simp [pairs, pt0, pt]) u1
      refine ⟨m', m1, ?_⟩
      rw [m2, u2, hg]
      rfl
    · have := hmem i (by omega) hik
      rw [List.getElem?_eq_getElem hil, Option.getD_some] at this
      exact ⟨_, Span.mem this, rfl⟩
  omega
/-! ### The walk -/
end Go.Proofs.Ytaidbcppecoenaa

