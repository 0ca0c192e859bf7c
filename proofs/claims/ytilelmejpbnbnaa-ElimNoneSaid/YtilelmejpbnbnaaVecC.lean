import Derived.Test.YtilelmejpbnbnaaVecB
/- Norm and Less, and the document's own. -/
namespace Go.Proofs.Ytilelmejpbnbnaa
open Go.RowKit
set_option linter.unusedVariables false
set_option maxRecDepth 100000

def normR (r : List UInt8 × List UInt8) : List UInt8 × List UInt8 := if leadI r.1 < 0 then r else (scaleL (ginv (atB r.1 (leadI r.1))) r.1, scaleL (ginv (atB r.1 (leadI r.1))) r.2)
theorem Rd.drew {w : World} {B n : Nat} {A : Option Addr} {us : List UInt8} (h : Rd w B A n us) : Rd w.drew B A n us := h
theorem Rd.dd {w : World} {n : Nat} {A : Option Addr} {us : List UInt8} (h : Rd w w.heap.size A n us) : Rd w.drew w.drew.heap.size A n us := h.step (Below.refl _ _).drew
theorem at_lead {us : List UInt8} (h : ¬ leadI us < 0) : atB us (leadI us) ≠ 0 := by
  have h1 := lead_bounds us
  have h2 := lead_get (us := us) (by omega)
  unfold atB
  rw [if_pos (by omega)]
  exact h2
/-- A row and a code are answered. -/
def RowEnds2 (r : (List UInt8 × List UInt8) × Int) (w : World) (e : Ending) (w' : World) : Prop := ∃ x, e = .returned (.tuple #[x, .int .i64 r.2]) ∧ RowIs w' r.1 x ∧ Below w.heap.size w w'
theorem RowEnds2.mk {w w' : World} {r : List UInt8 × List UInt8} {k : Int} {A A2 : Option Addr} {n c n2 c2 : Nat} (h1 : Rd w' w'.heap.size A n r.1) (h2 : Rd w' w'.heap.size A2 n2 r.2) (l1 : n ≤ 140737488355327) (l2 : n2 ≤ 140737488355327) (hb : Below w.heap.size w w') :
    RowEnds2 (r, k) w (.returned (.tuple #[.agg #[.slice A n c, .slice A2 n2 c2], .int .i64 k])) w' := ⟨_, rfl, ⟨_, _, _, _, _, _, rfl, h1, h2, l1, l2⟩, hb⟩
def lessR (r : List UInt8 × List UInt8) (x : UInt8) (o : List UInt8 × List UInt8) : (List UInt8 × List UInt8) × Int :=
  if o.1.length = r.1.length ∧ o.2.length = r.2.length then ((addL x o.1 r.1, addL x o.2 r.2), 0) else (([], []), 4)
theorem three_alloc {w : World} {T T2 T3 : TypeId} {cs cs2 cs3 : Array Value} : Below w.heap.size w (((w.alloc (.cells cs T)).alloc (.cells cs2 T2)).alloc (.cells cs3 T3)) ∧ Blk (((w.alloc (.cells cs T)).alloc (.cells cs2 T2)).alloc (.cells cs3 T3)) w.heap.size T cs ∧ Blk (((w.alloc (.cells cs T)).alloc (.cells cs2 T2)).alloc (.cells cs3 T3)) (w.heap.size + 1) T2 cs2 ∧ Blk (((w.alloc (.cells cs T)).alloc (.cells cs2 T2)).alloc (.cells cs3 T3)) (w.heap.size + 1 + 1) T3 cs3 ∧ w.heap.size + 2 < (((w.alloc (.cells cs T)).alloc (.cells cs2 T2)).alloc (.cells cs3 T3)).heap.size := by
  obtain ⟨h1, h2, h3⟩ := two_alloc (w := w) (T := T) (T2 := T2) (cs := cs) (cs2 := cs2)
  refine ⟨by go_grown, h2.alloc _, h3.alloc _, ?_, by simp⟩
  have := Blk.new ((w.alloc (.cells cs T)).alloc (.cells cs2 T2)) T3 cs3
  simpa using this
theorem vless_any {A A2 A3 A4 : Option Addr} {n c n2 c2 n3 c3 n4 c4 : Nat} {r o : List UInt8 × List UInt8} (x : UInt8) {w : World} (h1 : Rd w w.heap.size A n r.1) (h2 : Rd w w.heap.size A2 n2 r.2) (h3 : Rd w w.heap.size A3 n3 o.1) (h4 : Rd w w.heap.size A4 n4 o.2)
    (l1 : n ≤ 140737488355327) (l2 : n2 ≤ 140737488355327) (l3 : n3 ≤ 140737488355327) (l4 : n4 ≤ 140737488355327) :
    Calls Try.prog 83 #[.agg #[.slice A n c, .slice A2 n2 c2], .int .u8 (bv x), .agg #[.slice A3 n3 c3, .slice A4 n4 c4]] w (RowEnds2 (lessR r x o) w) := by
  obtain ⟨hb0, hx, hy, hg, hz⟩ := three_alloc (w := w) (T := 58) (T2 := 58) (T3 := 58) (cs := #[.slice A n c, .slice A2 n2 c2]) (cs2 := #[.slice A3 n3 c3, .slice A4 n4 c4]) (cs3 := #[.slice none 0 0, .slice none 0 0])
  have q1 := h1.step hb0
  have q2 := h2.step hb0
  have q3 := h3.step hb0
  have q4 := h4.step hb0
  have e1 := h1.1
  have e2 := h2.1
  have e3 := h3.1
  have e4 := h4.1
  have C1 := fun W q3 q1 l => axpy_all (w := W) (c := c3) (c2 := c) x (q3 : Rd W W.heap.size A3 n3 o.1) (q1 : Rd W W.heap.size A n r.1) (Nat.le_refl _) (Nat.le_refl _) l
  have C2 := fun W q4 q2 l => axpy_all (w := W) (c := c4) (c2 := c2) x (q4 : Rd W W.heap.size A4 n4 o.2) (q2 : Rd W W.heap.size A2 n2 r.2) (Nat.le_refl _) (Nat.le_refl _) l
  clear h1 h2 h3 h4
  by_cases d1 : n3 = n
  · have x1 : axpyR x o.1 r.1 = (addL x o.1 r.1, 0) := by simp [axpyR, e1, e3, d1]
    rw [x1] at C1
    have a1 : (addL x o.1 r.1).length = n := by rw [addL_length, e1]
    by_cases d2 : n4 = n2
    · have x2 : axpyR x o.2 r.2 = (addL x o.2 r.2, 0) := by simp [axpyR, e2, e4, d2]
      have x3 : lessR r x o = ((addL x o.1 r.1, addL x o.2 r.2), 0) := by simp [lessR, e1, e2, e3, e4, d1, d2]
      rw [x2] at C2
      rw [x3]
      have a2 : (addL x o.2 r.2).length = n2 := by rw [addL_length, e2]
      have A1 := Lib.hid a1
      have A2' := Lib.hid a2
      clear x1 x2 x3 e1 e2 e3 e4 a1 a2 d1 d2
      go_enter Try.func83, Try.ntmps83
      go_wp2_with fail
      refine (C1 _ q3 q1 (by omega)).mono ?_
      rintro e w1 ⟨B1, m1, k1, rfl, r1, s1, b1⟩
      clear C1
      generalize ((w.alloc (.cells #[.slice A n c, .slice A2 n2 c2] 58)).alloc (.cells #[.slice A3 n3 c3, .slice A4 n4 c4] 58)).alloc (.cells #[.slice none 0 0, .slice none 0 0] 58) = W at *
      replace q2 := q2.step b1
      replace q4 := q4.step b1
      replace hb0 := bstep hb0 b1
      replace hx := hx.below b1 (by omega)
      replace hy := hy.below b1 (by omega)
      replace hg := hg.below b1 (by omega)
      have hz1 := b1.size
      clear b1 q1 q3
      obtain ⟨hc0, hc1, hf0, hf1⟩ := cells2 hx
      obtain ⟨hd0, hd1, he0, he1⟩ := cells2 hy
      obtain ⟨hm0, hm1, hn0, hn1⟩ := cells2 hg
      go_wp2_with fail
      refine (C2 _ q4 q2 (by omega)).mono ?_
      rintro e w2 ⟨B2, m2, k2, rfl, r2, s2, b2⟩
      clear C2
      replace r1 := r1.step b2
      replace hb0 := bstep hb0 b2
      replace hg := hg.below b2 (by omega)
      clear hx hy b2 q2 q4 hc0 hc1 hf0 hf1 hd0 hd1 he0 he1 hm0 hm1 hn0 hn1
      obtain ⟨hc0, hc1, hf0, hf1⟩ := cells2 hg
      go_wp2_with fail
      refine end_row (v := .tuple #[.agg #[.slice B1 m1 k1, .slice B2 m2 k2], .int .i64 0]) hg (by intro W e0 e1; simp [results, Try.results83, go_sem, e0, e1]) rfl fun W hl => ?_
      exact RowEnds2.mk (hl.row r1 hg NoBytes.two) (hl.row r2 hg NoBytes.two) (by have h5 := r1.1; have h6 := A1.out; omega) (by have h5 := r2.1; have h6 := A2'.out; omega) (hl.below _ _ (by omega) hb0)
    · have x2 : axpyR x o.2 r.2 = ([], 4) := by simp [axpyR, e2, e4, d2]
      have x3 : lessR r x o = (([], []), 4) := by simp [lessR, e1, e2, e3, e4, d1, d2]
      rw [x2] at C2
      rw [x3]
      clear x1 x2 x3 e1 e2 e3 e4 a1 d1 d2
      go_enter Try.func83, Try.ntmps83
      go_wp2_with fail
      refine (C1 _ q3 q1 (by omega)).mono ?_
      rintro e w1 ⟨B1, m1, k1, rfl, r1, s1, b1⟩
      clear C1
      generalize ((w.alloc (.cells #[.slice A n c, .slice A2 n2 c2] 58)).alloc (.cells #[.slice A3 n3 c3, .slice A4 n4 c4] 58)).alloc (.cells #[.slice none 0 0, .slice none 0 0] 58) = W at *
      replace q2 := q2.step b1
      replace q4 := q4.step b1
      replace hb0 := bstep hb0 b1
      replace hx := hx.below b1 (by omega)
      replace hy := hy.below b1 (by omega)
      replace hg := hg.below b1 (by omega)
      have hz1 := b1.size
      clear b1 q1 q3
      obtain ⟨hc0, hc1, hf0, hf1⟩ := cells2 hx
      obtain ⟨hd0, hd1, he0, he1⟩ := cells2 hy
      obtain ⟨hm0, hm1, hn0, hn1⟩ := cells2 hg
      go_wp2_with fail
      refine (C2 _ q4 q2 (by omega)).mono ?_
      rintro e w2 ⟨B2, m2, k2, rfl, r2, s2, b2⟩
      clear C2
      replace hb0 := bstep hb0 b2
      replace hg := hg.below b2 (by omega)
      clear hx hy b2 q2 q4 hc0 hc1 hf0 hf1 hd0 hd1 he0 he1 hm0 hm1 hn0 hn1
      obtain ⟨hc0, hc1, hf0, hf1⟩ := cells2 hg
      go_wp2_with fail
      refine end_row (v := .tuple #[.agg #[.slice none 0 0, .slice none 0 0], .int .i64 4]) hg (by intro W e0 e1; simp [results, Try.results83, go_sem, e0, e1]) rfl fun W hl => ?_
      exact RowEnds2.mk Rd.nil Rd.nil (by omega) (by omega) (hl.below _ _ (by omega) hb0)
  · have x1 : axpyR x o.1 r.1 = ([], 4) := by simp [axpyR, e1, e3, d1]
    have x3 : lessR r x o = (([], []), 4) := by simp [lessR, e1, e3, d1]
    rw [x1] at C1
    rw [x3]
    clear x1 x3 e1 e2 e3 e4 d1
    go_enter Try.func83, Try.ntmps83
    go_wp2_with fail
    refine (C1 _ q3 q1 (by omega)).mono ?_
    rintro e w1 ⟨B1, m1, k1, rfl, r1, s1, b1⟩
    clear C1
    generalize ((w.alloc (.cells #[.slice A n c, .slice A2 n2 c2] 58)).alloc (.cells #[.slice A3 n3 c3, .slice A4 n4 c4] 58)).alloc (.cells #[.slice none 0 0, .slice none 0 0] 58) = W at *
    replace q2 := q2.step b1
    replace q4 := q4.step b1
    replace hb0 := bstep hb0 b1
    replace hx := hx.below b1 (by omega)
    replace hy := hy.below b1 (by omega)
    replace hg := hg.below b1 (by omega)
    have hz1 := b1.size
    clear b1 q1 q3
    obtain ⟨hc0, hc1, hf0, hf1⟩ := cells2 hx
    obtain ⟨hd0, hd1, he0, he1⟩ := cells2 hy
    obtain ⟨hm0, hm1, hn0, hn1⟩ := cells2 hg
    go_wp2_with fail
    refine end_row (v := .tuple #[.agg #[.slice none 0 0, .slice none 0 0], .int .i64 4]) hg (by intro W e0 e1; simp [results, Try.results83, go_sem, e0, e1]) rfl fun W hl => ?_
    exact RowEnds2.mk Rd.nil Rd.nil (by omega) (by omega) (hl.below _ _ (by omega) hb0)
end Go.Proofs.Ytilelmejpbnbnaa
