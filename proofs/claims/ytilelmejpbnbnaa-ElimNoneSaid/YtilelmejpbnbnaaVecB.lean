import Derived.Test.YtilelmejpbnbnaaVec
/- Rows, by value: what is made of them. -/
namespace Go.Proofs.Ytilelmejpbnbnaa
open Go.RowKit
set_option linter.unusedVariables false
set_option maxRecDepth 100000

/-- The value reads as a row. -/
def RowIs (w : World) (r : List UInt8 × List UInt8) (x : Value) : Prop :=
  ∃ A n c A2 n2 c2, x = .agg #[.slice A n c, .slice A2 n2 c2] ∧ Rd w w.heap.size A n r.1 ∧ Rd w w.heap.size A2 n2 r.2 ∧ n ≤ 140737488355327 ∧ n2 ≤ 140737488355327
theorem RowIs.step {w w' : World} {r : List UInt8 × List UInt8} {x : Value} (h : RowIs w r x) (hb : Below w.heap.size w w') : RowIs w' r x := by
  obtain ⟨A, n, c, A2, n2, c2, e, h1, h2, l⟩ := h
  exact ⟨A, n, c, A2, n2, c2, e, h1.step hb, h2.step hb, l⟩
/-- A row is answered. -/
def RowEnds (r : List UInt8 × List UInt8) (w : World) (e : Ending) (w' : World) : Prop := ∃ x, e = .returned x ∧ RowIs w' r x ∧ Below w.heap.size w w'
theorem RowEnds.mk {w w' : World} {r : List UInt8 × List UInt8} {A A2 : Option Addr} {n c n2 c2 : Nat} (h1 : Rd w' w'.heap.size A n r.1) (h2 : Rd w' w'.heap.size A2 n2 r.2) (l1 : n ≤ 140737488355327) (l2 : n2 ≤ 140737488355327) (hb : Below w.heap.size w w') :
    RowEnds r w (.returned (.agg #[.slice A n c, .slice A2 n2 c2])) w' := ⟨_, rfl, ⟨_, _, _, _, _, _, rfl, h1, h2, l1, l2⟩, hb⟩

/-- Bytes do not lie in a block whose cells hold no bytes. -/
def NoBytes (cs : Array Value) : Prop := ∀ (i : Nat) (v : Value) (u : UInt8), cs[i]? = some v → v ≠ Value.int .u8 (bv u)
theorem NoBytes.two {A A2 : Option Addr} {n n2 c c2 : Nat} : NoBytes #[.slice A n c, .slice A2 n2 c2] := by
  intro i v u h e
  subst e
  match i, h with
  | 0, h => simp at h
  | 1, h => simp at h
  | i + 2, h => simp at h
theorem Rd.far {w w' : World} {B n g : Nat} {A : Option Addr} {us : List UInt8} {T : TypeId} {cs : Array Value} (h : Rd w B A n us) (hg : Blk w g T cs) (hn : NoBytes cs) (hk : ∀ p : Addr, p.block ≠ g → w'.cell? p = w.cell? p) : Rd w' B A n us :=
  ⟨h.1, fun hp => by
    obtain ⟨b, off, e, hb, hc⟩ := h.2 hp
    refine ⟨b, off, e, hb, fun i u hu => ?_⟩
    have h1 := hc i u hu
    rw [hk ⟨b, off + i, none⟩ ?_]
    · exact h1
    · intro hbg
      simp only at hbg
      subst hbg
      rw [hg.cell] at h1
      exact hn _ _ u h1 rfl⟩
theorem Rd.set2 {w : World} {B n g : Nat} {A : Option Addr} {us : List UInt8} {T : TypeId} {cs : Array Value} {x y : Value} (h : Rd w B A n us) (hg : Blk w g T cs) (hn : NoBytes cs) : Rd ((w.setCell ⟨g, 0, none⟩ x).setCell ⟨g, 1, none⟩ y) B A n us :=
  h.far hg hn fun p hp => by
    rw [World.cell?_setCell_far _ _ _ _ (fun e => hp e.symm), World.cell?_setCell_far _ _ _ _ (fun e => hp e.symm)]
theorem Blk.two {w : World} {g : Nat} {T : TypeId} {x y x0 y0 : Value} (hg : Blk w g T #[x0, y0]) : Blk ((w.setCell ⟨g, 0, none⟩ x).setCell ⟨g, 1, none⟩ y) g T #[x, y] := by
  have := (hg.set 0 x).set 1 y
  simpa using this
theorem cells2 {w : World} {g : Nat} {T : TypeId} {x y : Value} (h : Blk w g T #[x, y]) : w.cell? ⟨g, 0, none⟩ = some x ∧ w.cell? ⟨g, 1, none⟩ = some y ∧ w.frozen? ⟨g, 0, none⟩ = false ∧ w.frozen? ⟨g, 1, none⟩ = false := by
  refine ⟨?_, ?_, h.frozen 0, h.frozen 1⟩
  · rw [h.cell]; rfl
  · rw [h.cell]; rfl
/-- What stands behind the last store: only block g has changed. -/
structure Last (g : Nat) (T : TypeId) (x y : Value) (w W : World) : Prop where
  blk : Blk W g T #[x, y]
  far : ∀ p : Addr, p.block ≠ g → W.cell? p = w.cell? p
  size : W.heap.size = w.heap.size
  below : ∀ B w0, B ≤ g → Below B w0 w → Below B w0 W
theorem Last.row {g : Nat} {T : TypeId} {x y x0 y0 : Value} {w W : World} {n : Nat} {A : Option Addr} {us : List UInt8} (hl : Last g T x y w W) (h : Rd w w.heap.size A n us) (hg : Blk w g T #[x0, y0]) (hn : NoBytes #[x0, y0]) : Rd W W.heap.size A n us :=
  (h.far hg hn hl.far).more (by rw [hl.size]; exact Nat.le_refl _)
theorem end_row {fn : Func} {R : Ending → World → Prop} {a : Act} {w : World} {g : Nat} {T : TypeId} {x y x0 y0 v : Value} (hg : Blk w g T #[x0, y0])
    (hr : ∀ W : World, W.cell? ⟨g, 0, none⟩ = some x → W.cell? ⟨g, 1, none⟩ = some y → (results fn a.tmps).run Try.prog W = .ok v W) (hd : a.defers = []) (h : ∀ W, Last g T x y w W → R (.returned v) W) :
    bodyPost Try.prog fn R .ret a ((w.setCell ⟨g, 0, none⟩ x).setCell ⟨g, 1, none⟩ y) := by
  have hG := hg.two (x := x) (y := y)
  obtain ⟨e0, e1, _, _⟩ := cells2 hG
  refine bodyPost_ret (hr _ e0 e1) hd (h _ ⟨hG, fun p hp => ?_, by simp [World.setCell], fun B w0 hB hb => (hb.setCell hB _).setCell hB _⟩)
  rw [World.cell?_setCell_far _ _ _ _ (fun e => hp e.symm), World.cell?_setCell_far _ _ _ _ (fun e => hp e.symm)]
theorem vof_any {A A2 : Option Addr} {n c n2 c2 : Nat} {us vs : List UInt8} {w : World} (h1 : Rd w w.heap.size A n us) (h2 : Rd w w.heap.size A2 n2 vs) (l1 : n ≤ 140737488355327) (l2 : n2 ≤ 140737488355327) :
    Calls Try.prog 48 #[.slice A n c, .slice A2 n2 c2] w (RowEnds (us, vs) w) := by
  have hb0 := balloc w (.cells #[.slice none 0 0, .slice none 0 0] 58)
  have q1 := h1.step hb0
  have q2 := h2.step hb0
  have hg := Blk.new w 58 #[.slice none 0 0, .slice none 0 0]
  have hz : w.heap.size < (w.alloc (.cells #[.slice none 0 0, .slice none 0 0] 58)).heap.size := by simp
  clear h1 h2
  go_enter Try.func48, Try.ntmps48
  go_wp2_with fail
  refine (clone_any q1 (Nat.le_refl _) l1).mono ?_
  rintro e w1 ⟨A', c', rfl, r1, b1⟩
  replace q2 := q2.step b1
  replace hg := hg.below b1 hz
  replace hz := Nat.lt_of_lt_of_le hz b1.size
  replace hb0 := bstep hb0 b1
  clear b1 q1
  go_wp2_with fail
  refine (clone_any q2 (Nat.le_refl _) l2).mono ?_
  rintro e w2 ⟨A2', c2', rfl, r2, b2⟩
  replace r1 := r1.step b2
  replace hg := hg.below b2 hz
  replace hz := Nat.lt_of_lt_of_le hz b2.size
  replace hb0 := bstep hb0 b2
  clear b2 q2
  have hc0 := hg.cell 0
  have hc1 := hg.cell 1
  have hf0 := hg.frozen 0
  have hf1 := hg.frozen 1
  simp only [List.getElem?_toArray, List.getElem?_cons_zero, List.getElem?_cons_succ] at hc0 hc1
  go_wp2_with fail
  refine end_row (v := .agg #[.slice A' n c', .slice A2' n2 c2']) hg (by intro W e0 e1; simp [results, Try.results48, go_sem, e0, e1]) rfl fun W hl => ?_
  exact RowEnds.mk (hl.row r1 hg NoBytes.two) (hl.row r2 hg NoBytes.two) l1 l2 (hl.below _ _ (Nat.le_refl _) hb0)
theorem two_alloc {w : World} {T T2 : TypeId} {cs cs2 : Array Value} : Below w.heap.size w ((w.alloc (.cells cs T)).alloc (.cells cs2 T2)) ∧ Blk ((w.alloc (.cells cs T)).alloc (.cells cs2 T2)) w.heap.size T cs ∧ Blk ((w.alloc (.cells cs T)).alloc (.cells cs2 T2)) (w.heap.size + 1) T2 cs2 := by
  refine ⟨by go_grown, (Blk.new w T cs).alloc _, ?_⟩
  have := Blk.new (w.alloc (.cells cs T)) T2 cs2
  simpa using this
theorem rclone_any {A A2 : Option Addr} {n c n2 c2 : Nat} {us vs : List UInt8} {w : World} (h1 : Rd w w.heap.size A n us) (h2 : Rd w w.heap.size A2 n2 vs) (l1 : n ≤ 140737488355327) (l2 : n2 ≤ 140737488355327) :
    Calls Try.prog 61 #[.agg #[.slice A n c, .slice A2 n2 c2]] w (RowEnds (us, vs) w) := by
  obtain ⟨hb0, hx, hg⟩ := two_alloc (w := w) (T := 58) (T2 := 58) (cs := #[.slice A n c, .slice A2 n2 c2]) (cs2 := #[.slice none 0 0, .slice none 0 0])
  have q1 := h1.step hb0
  have q2 := h2.step hb0
  have hz : w.heap.size + 1 < ((w.alloc (.cells #[.slice A n c, .slice A2 n2 c2] 58)).alloc (.cells #[.slice none 0 0, .slice none 0 0] 58)).heap.size := by simp
  clear h1 h2
  go_enter Try.func61, Try.ntmps61
  go_wp2_with fail
  refine (vof_any q1 q2 l1 l2).mono ?_
  rintro e w1 ⟨x, rfl, ⟨A3, n3, c3, A4, n4, c4, rfl, r1, r2, l3, l4⟩, b1⟩
  replace hg := hg.below b1 hz
  replace hb0 := bstep hb0 b1
  clear b1 q1 q2 hx hz
  obtain ⟨hc0, hc1, hf0, hf1⟩ := cells2 hg
  go_wp2_with fail
  refine end_row (v := .agg #[.slice A3 n3 c3, .slice A4 n4 c4]) hg (by intro W e0 e1; simp [results, Try.results61, go_sem, e0, e1]) rfl fun W hl => ?_
  exact RowEnds.mk (hl.row r1 hg NoBytes.two) (hl.row r2 hg NoBytes.two) l3 l4 (hl.below _ _ (by omega) hb0)
end Go.Proofs.Ytilelmejpbnbnaa
