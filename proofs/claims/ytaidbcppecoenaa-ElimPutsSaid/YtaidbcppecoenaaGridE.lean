import Derived.Test.YtaidbcppecoenaaGridD
import Derived.Test.YtaidbcppecoenaaMat
import Derived.Test.YtaidbcppecoenaaVecM
/- Stairs: a row put on them. -/
namespace Go.Proofs.Ytaidbcppecoenaa
open Go.RowKit
set_option linter.unusedVariables false
set_option maxRecDepth 100000

abbrev RowL := List UInt8 × List UInt8
/-- Block g holds n rows; those that st names read as it says, the others are nil. -/
def Stairs (w : World) (g n : Nat) (st : Nat → Option RowL) : Prop :=
  ∃ cs : List Value, cs.length = n * 2 ∧ Blk w g 58 cs.toArray ∧ (∀ v ∈ cs, IsSl v) ∧ ∀ i, i < n →
    (st i = none ∧ cs[i * 2]? = some (.slice none 0 0) ∧ cs[i * 2 + 1]? = some (.slice none 0 0)) ∨
    ∃ r b o m c A2 m2 c2, st i = some r ∧ cs[i * 2]? = some (.slice (some ⟨b, o, none⟩) m c) ∧ cs[i * 2 + 1]? = some (.slice A2 m2 c2) ∧ RowIs w r (.agg #[.slice (some ⟨b, o, none⟩) m c, .slice A2 m2 c2])
theorem Stairs.lt {w : World} {g n : Nat} {st : Nat → Option RowL} (h : Stairs w g n st) : g < w.heap.size := by
  obtain ⟨cs, _, h2, _⟩ := h
  exact h2.lt
theorem Stairs.step {w w' : World} {g n : Nat} {st : Nat → Option RowL} (h : Stairs w g n st) (hb : Below w.heap.size w w') : Stairs w' g n st := by
  obtain ⟨cs, h1, h2, h3, h4⟩ := h
  refine ⟨cs, h1, h2.below hb h2.lt, h3, fun i hi => ?_⟩
  rcases h4 i hi with h | ⟨r, b, o, m, c, A2, m2, c2, e1, e2, e3, e4⟩
  · exact .inl h
  · exact .inr ⟨r, b, o, m, c, A2, m2, c2, e1, e2, e3, e4.step hb⟩
theorem Stairs.free {w : World} {g n : Nat} {st : Nat → Option RowL} (h : Stairs w g n st) (k : Nat) : w.frozen? ⟨g, k, none⟩ = false := by
  obtain ⟨cs, h1, h2, _⟩ := h
  exact h2.frozen k
theorem Stairs.full {w : World} {g n i : Nat} {st : Nat → Option RowL} {r : RowL} (h : Stairs w g n st) (hi : i < n) (e : st i = some r) : ∃ b o m c A2 m2 c2, w.cell? ⟨g, i * 2, none⟩ = some (.slice (some ⟨b, o, none⟩) m c) ∧ w.cell? ⟨g, i * 2 + 1, none⟩ = some (.slice A2 m2 c2) ∧ RowIs w r (.agg #[.slice (some ⟨b, o, none⟩) m c, .slice A2 m2 c2]) := by
  obtain ⟨cs, h1, h2, h3, h4⟩ := h
  rcases h4 i hi with ⟨e1, _⟩ | ⟨r', b, o, m, c, A2, m2, c2, e1, e2, e3, e4⟩
  · rw [e] at e1; cases e1
  · rw [e] at e1
    injection e1 with e1
    subst e1
    exact ⟨b, o, m, c, A2, m2, c2, by rw [h2.cell]; simpa using e2, by rw [h2.cell]; simpa using e3, e4⟩
def upd (st : Nat → Option RowL) (i : Nat) (r : RowL) : Nat → Option RowL := fun j => if j = i then some r else st j
theorem Rd.setTwo {w : World} {B n g i j : Nat} {A : Option Addr} {us : List UInt8} {T : TypeId} {cs : Array Value} {x y : Value} (h : Rd w B A n us) (hg : Blk w g T cs) (hn : NoBytes cs) : Rd ((w.setCell ⟨g, i, none⟩ x).setCell ⟨g, j, none⟩ y) B A n us :=
  h.far hg hn fun p hp => by
    rw [World.cell?_setCell_far _ _ _ _ (fun e => hp e.symm), World.cell?_setCell_far _ _ _ _ (fun e => hp e.symm)]
theorem RowIs.setTwo {w : World} {g i j : Nat} {r : RowL} {T : TypeId} {cs : Array Value} {x y z : Value} (h : RowIs w r z) (hg : Blk w g T cs) (hn : NoBytes cs) : RowIs ((w.setCell ⟨g, i, none⟩ x).setCell ⟨g, j, none⟩ y) r z := by
  obtain ⟨A, n, c, A2, n2, c2, rfl, h1, h2, l1, l2⟩ := h
  have hs : ((w.setCell ⟨g, i, none⟩ x).setCell ⟨g, j, none⟩ y).heap.size = w.heap.size := by simp [World.setCell]
  exact RowIs.mk ((h1.setTwo hg hn).more (by rw [hs]; exact Nat.le_refl _)) ((h2.setTwo hg hn).more (by rw [hs]; exact Nat.le_refl _)) l1 l2
theorem Holds.turn {w : World} {T : TypeId} {r : RowL} {g : Nat} {A A2 : Option Addr} {n c n2 c2 : Nat} {x0 y0 : Value} (hg : Blk w g T #[x0, y0]) (hn : NoBytes #[x0, y0]) (h : RowIs w r (.agg #[.slice A n c, .slice A2 n2 c2])) : Holds ((w.setCell ⟨g, 0, none⟩ (.slice A n c)).setCell ⟨g, 1, none⟩ (.slice A2 n2 c2)) g T r :=
  ⟨_, _, _, _, _, _, hg.two, h.setTwo hg hn⟩
theorem Stairs.far2 {w : World} {g n h : Nat} {st : Nat → Option RowL} {T : TypeId} {cs : Array Value} {i j : Nat} {x y : Value} (hS : Stairs w g n st) (hh : Blk w h T cs) (hn : NoBytes cs) (hne : g ≠ h) : Stairs ((w.setCell ⟨h, i, none⟩ x).setCell ⟨h, j, none⟩ y) g n st := by
  obtain ⟨cs', h1, h2, h3, h4⟩ := hS
  refine ⟨cs', h1, (h2.far (p := (⟨h, i, none⟩ : Addr)) hne x).far (p := (⟨h, j, none⟩ : Addr)) hne y, h3, fun k hk => ?_⟩
  rcases h4 k hk with h | ⟨r, b, o, m, c, A2, m2, c2, e1, e2, e3, e4⟩
  · exact .inl h
  · exact .inr ⟨r, b, o, m, c, A2, m2, c2, e1, e2, e3, e4.setTwo hh hn⟩
theorem Stairs.put {w : World} {g n i b o m c m2 c2 : Nat} {A2 : Option Addr} {st : Nat → Option RowL} {r : RowL} (h : Stairs w g n st) (hi : i < n) (hr : RowIs w r (.agg #[.slice (some ⟨b, o, none⟩) m c, .slice A2 m2 c2])) :
    Stairs ((w.setCell ⟨g, i * 2, none⟩ (.slice (some ⟨b, o, none⟩) m c)).setCell ⟨g, i * 2 + 1, none⟩ (.slice A2 m2 c2)) g n (upd st i r) := by
  obtain ⟨cs, h1, h2, h3, h4⟩ := h
  refine ⟨(cs.set (i * 2) (.slice (some ⟨b, o, none⟩) m c)).set (i * 2 + 1) (.slice A2 m2 c2), by simpa using h1, ?_, ?_, fun j hj => ?_⟩
  · have := (h2.set (i * 2) (.slice (some ⟨b, o, none⟩) m c)).set (i * 2 + 1) (.slice A2 m2 c2)
    simpa using this
  · intro v hv
    rcases List.mem_or_eq_of_mem_set hv with hv | rfl
    · rcases List.mem_or_eq_of_mem_set hv with hv | rfl
      · exact h3 v hv
      · exact ⟨_, _, _, rfl⟩
    · exact ⟨_, _, _, rfl⟩
  · by_cases hji : j = i
    · subst hji
      refine .inr ⟨r, b, o, m, c, A2, m2, c2, by simp [upd], ?_, ?_, hr.setTwo h2 (NoBytes.sl h3)⟩
      · rw [List.getElem?_set_ne (by omega), List.getElem?_set_self (by omega)]
      · rw [List.getElem?_set_self (by simp; omega)]
    · have e1 : ((cs.set (i * 2) (.slice (some ⟨b, o, none⟩) m c)).set (i * 2 + 1) (.slice A2 m2 c2))[j * 2]? = cs[j * 2]? := by
        rw [List.getElem?_set_ne (by omega), List.getElem?_set_ne (by omega)]
      have e2 : ((cs.set (i * 2) (.slice (some ⟨b, o, none⟩) m c)).set (i * 2 + 1) (.slice A2 m2 c2))[j * 2 + 1]? = cs[j * 2 + 1]? := by
        rw [List.getElem?_set_ne (by omega), List.getElem?_set_ne (by omega)]
      have e3 : upd st i r j = st j := by simp [upd, hji]
      rw [e1, e2, e3]
      rcases h4 j hj with h | ⟨r', b', o', m', c', A2', m2', c2', e1, e2, e3, e4⟩
      · exact .inl h
      · exact .inr ⟨r', b', o', m', c', A2', m2', c2', e1, e2, e3, e4.setTwo h2 (NoBytes.sl h3)⟩
theorem vrow_info : (Try.prog.info? 58).map (fun i => (i.zero, i.size, i.bytes)) = some (some (.agg #[.slice none 0 0, .slice none 0 0]), 2, 48) := by kernel_rfl
def nilRows (n : Nat) : List Value := List.replicate (n * 2) (.slice none 0 0)
theorem Stairs.new (w : World) (n : Nat) : Stairs (w.alloc (.cells (nilRows n).toArray 58)) w.heap.size n fun _ => none := by
  refine ⟨nilRows n, by simp [nilRows], Blk.new _ _ _, ?_, fun i hi => .inl ⟨rfl, ?_, ?_⟩⟩
  · intro v hv
    simp only [nilRows, List.mem_replicate] at hv
    exact ⟨_, _, _, hv.2⟩
  · rw [nilRows, List.getElem?_replicate, if_pos (by omega)]
  · rw [nilRows, List.getElem?_replicate, if_pos (by omega)]
theorem madeCells_two (z : Value) (n : Nat) : (madeCells #[z, z] n).toList = List.replicate n z := by
  apply List.ext_getElem?
  intro j
  by_cases hj : j < n
  · have h2 : j % 2 = 0 ∨ j % 2 = 1 := by omega
    rcases h2 with h2 | h2 <;> simp [madeCells, hj, h2]
  · simp [madeCells, hj]
/-! ### A row put on the stairs -/
/-- What is left of r, behind some stairs. -/
def Came (st : Nat → Option RowL) (r x : RowL) : Prop := x.1.length = r.1.length ∧ x.2.length = r.2.length ∧ ∃ l : List (Nat × RowL), (∀ p ∈ l, st p.1 = some p.2) ∧ x = l.foldl (fun r p => lessAt r p.2 p.1) r
theorem Came.refl (st : Nat → Option RowL) (r : RowL) : Came st r r := ⟨rfl, rfl, [], by simp, rfl⟩
theorem lessAt_len {r o : RowL} {i : Int} (h1 : o.1.length = r.1.length) (h2 : o.2.length = r.2.length) : (lessAt r o i).1.length = r.1.length ∧ (lessAt r o i).2.length = r.2.length := by
  unfold lessAt lessR
  rw [if_pos ⟨h1, h2⟩]
  exact ⟨addL_length _ _ _, addL_length _ _ _⟩
theorem Came.less {st : Nat → Option RowL} {r x o : RowL} {i : Nat} (h : Came st r x) (ho : st i = some o) (h1 : o.1.length = r.1.length) (h2 : o.2.length = r.2.length) : Came st r (lessAt x o i) := by
  obtain ⟨e1, e2, l, e3, e4⟩ := h
  obtain ⟨f1, f2⟩ := lessAt_len (r := x) (o := o) (i := i) (by omega) (by omega)
  refine ⟨by omega, by omega, l ++ [(i, o)], fun p hp => ?_, by rw [List.foldl_append, ← e4]; rfl⟩
  rcases List.mem_append.1 hp with hp | hp
  · exact e3 p hp
  · rw [List.mem_singleton.1 hp]; exact ho
/-- What came of a row: a part of it is left, that leads nowhere, or where there was no stair. -/
def Took (st : Nat → Option RowL) (n : Nat) (r : RowL) (g : Nat) (w : World) (e : Ending) (w' : World) : Prop :=
  ∃ x : RowL, Came st r x ∧ w.grownBy w' (some g) ∧
    ((leadI x.1 < 0 ∧ e = .returned (.bool false) ∧ Stairs w' g n st) ∨ ∃ i : Nat, leadI x.1 = (i : Int) ∧ i < n ∧ st i = none ∧ e = .returned (.bool true) ∧ Stairs w' g n (upd st i (normR x)))
/-- All rows have this size, and lead with a 1, each at its place. -/
def Sized (st : Nat → Option RowL) (n m : Nat) : Prop := ∀ i r, st i = some r → r.1.length = n ∧ r.2.length = m ∧ leadI r.1 = (i : Int) ∧ r.1[i]?.getD 0 = 1
theorem Took.no {st : Nat → Option RowL} {n g : Nat} {r x : RowL} {w w' : World} (h : Came st r x) (hn : leadI x.1 < 0) (hS : Stairs w' g n st) (hb : Below w.heap.size w w') : Took st n r g w (.returned (.bool false)) w' :=
  ⟨x, h, grown_of_below hb _, .inl ⟨hn, rfl, hS⟩⟩
theorem Took.yes {st : Nat → Option RowL} {n g i : Nat} {r x : RowL} {w w' : World} (h : Came st r x) (hn : leadI x.1 = (i : Int)) (hi : i < n) (e : st i = none) (hS : Stairs w' g n (upd st i (normR x))) (hb : w.grownBy w' (some g)) : Took st n r g w (.returned (.bool true)) w' :=
  ⟨x, h, hb, .inr ⟨i, hn, hi, e, rfl, hS⟩⟩
end Go.Proofs.Ytaidbcppecoenaa

