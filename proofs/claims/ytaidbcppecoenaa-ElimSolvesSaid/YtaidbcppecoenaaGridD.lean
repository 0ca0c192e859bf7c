import Derived.Test.YtaidbcppecoenaaGridC
import Derived.Deep.DeepCutAuto
import Derived.Deep.CutRange
/- Stairs: a row less another one; a row put on them; a grid's rank. -/
namespace Go.Proofs.Ytaidbcppecoenaa
open Go.RowKit
set_option linter.unusedVariables false
set_option maxRecDepth 100000

theorem cells22 {V : World} {g h : Nat} {T T' : TypeId} {a b c d : Value} (h1 : Blk V g T #[a, b]) (h2 : Blk V h T' #[c, d]) {w' : World} (hb : Below V.heap.size V w') :
    w'.cell? ⟨g, 0, none⟩ = some a ∧ w'.cell? ⟨g, 1, none⟩ = some b ∧ w'.cell? ⟨h, 0, none⟩ = some c ∧ w'.cell? ⟨h, 1, none⟩ = some d := by
  obtain ⟨x0, x1, _⟩ := cells2 (h1.below hb h1.lt)
  obtain ⟨y0, y1, _⟩ := cells2 (h2.below hb h2.lt)
  exact ⟨x0, x1, y0, y1⟩
theorem RowIs.mk {w : World} {r : List UInt8 × List UInt8} {A A2 : Option Addr} {n c n2 c2 : Nat} (h1 : Rd w w.heap.size A n r.1) (h2 : Rd w w.heap.size A2 n2 r.2) (l1 : n ≤ 140737488355327) (l2 : n2 ≤ 140737488355327) : RowIs w r (.agg #[.slice A n c, .slice A2 n2 c2]) :=
  ⟨A, n, c, A2, n2, c2, rfl, h1, h2, l1, l2⟩
theorem RowIs.parts {w : World} {r : List UInt8 × List UInt8} {A A2 : Option Addr} {n c n2 c2 : Nat} (h : RowIs w r (.agg #[.slice A n c, .slice A2 n2 c2])) : Rd w w.heap.size A n r.1 ∧ Rd w w.heap.size A2 n2 r.2 ∧ n ≤ 140737488355327 ∧ n2 ≤ 140737488355327 := by
  obtain ⟨A', n', c', A2', n2', c2', e, q1, q2, l1, l2⟩ := h
  injection e with e
  simp only [Array.mk.injEq, List.cons.injEq, Value.slice.injEq, and_true] at e
  obtain ⟨⟨rfl, rfl, rfl⟩, rfl, rfl, rfl⟩ := e
  exact ⟨q1, q2, l1, l2⟩
theorem c_at {w : World} {r : List UInt8 × List UInt8} {A A2 : Option Addr} {n c n2 c2 : Nat} (h : RowIs w r (.agg #[.slice A n c, .slice A2 n2 c2])) (k : Int) (h1 : -9223372036854775808 ≤ k) (h2 : k ≤ 9223372036854775807) :
    Calls Try.prog 82 #[.slice A n c, .int .i64 k] w fun e w' => e = .returned (.int .u8 (bv (atB r.1 k))) ∧ w = w' := by
  obtain ⟨q1, q2, l1, l2⟩ := h.parts
  exact at_any q1 (by omega) k h1 h2
/-- What is left of a row, where the other one leads with a 1. -/
def lessAt (r : List UInt8 × List UInt8) (o : List UInt8 × List UInt8) (i : Int) : List UInt8 × List UInt8 := (lessR r (atB r.1 i) o).1
theorem gless_any {w : World} {r o : List UInt8 × List UInt8} {x y : Value} (i : Int) (hx : RowIs w r x) (hy : RowIs w o y) (h1 : -9223372036854775808 ≤ i) (h2 : i ≤ 9223372036854775807) :
    Calls Try.prog 79 #[x, y, .int .i64 i] w (RowEnds (lessAt r o i) w) := by
  obtain ⟨A1, n1, c1, A2, n2, c2, rfl, p1, p2, l1, l2⟩ := hx
  obtain ⟨A3, n3, c3, A4, n4, c4, rfl, p3, p4, l3, l4⟩ := hy
  obtain ⟨hb0, bx, by_, hg, hz⟩ := three_alloc (w := w) (T := 58) (T2 := 58) (T3 := 58) (cs := #[.slice A1 n1 c1, .slice A2 n2 c2]) (cs2 := #[.slice A3 n3 c3, .slice A4 n4 c4]) (cs3 := #[.slice none 0 0, .slice none 0 0])
  have rx : RowIs _ r _ := (RowIs.mk (c := c1) (c2 := c2) p1 p2 l1 l2).step hb0
  have ry : RowIs _ o _ := (RowIs.mk (c := c3) (c2 := c4) p3 p4 l3 l4).step hb0
  clear p1 p2 p3 p4
  go_enter Try.func79, Try.ntmps79
  go_wp2_with fail
  generalize ((w.alloc (.cells #[.slice A1 n1 c1, .slice A2 n2 c2] 58)).alloc (.cells #[.slice A3 n3 c3, .slice A4 n4 c4] 58)).alloc (.cells #[.slice none 0 0, .slice none 0 0] 58) = V at *
  have HS : Hid (∀ w', Below V.heap.size V w' → (Below V.heap.size V w' ∧ w'.cell? ⟨w.heap.size, 0, none⟩ = some (.slice A1 n1 c1) ∧ w'.cell? ⟨w.heap.size, 1, none⟩ = some (.slice A2 n2 c2) ∧ w'.cell? ⟨w.heap.size + 1, 0, none⟩ = some (.slice A3 n3 c3) ∧ w'.cell? ⟨w.heap.size + 1, 1, none⟩ = some (.slice A4 n4 c4))) := Lib.hid fun w' hb => ⟨hb, cells22 bx by_ hb⟩
  have CA := fun W h => c_at (w := W) (r := r) (A := A1) (A2 := A2) (n := n1) (c := c1) (n2 := n2) (c2 := c2) h i h1 h2
  have HL : Hid (lessAt r o i = (lessR r (atB r.1 i) o).1) := Lib.hid rfl
  generalize atB r.1 i = a at *
  go_cut [7, 8] (fun s8 s9 wx => ∃ g, s8 = .pointer (some ⟨g, 0, none⟩) ∧ s9 = .int .i64 (lessR r a o).2 ∧ Holds wx g 58 (lessR r a o).1 ∧ Below V.heap.size V wx)
  case first =>
    go_region_held3 (fun w' => Below V.heap.size V w' ∧ w'.cell? ⟨w.heap.size, 0, none⟩ = some (.slice A1 n1 c1) ∧ w'.cell? ⟨w.heap.size, 1, none⟩ = some (.slice A2 n2 c2) ∧ w'.cell? ⟨w.heap.size + 1, 0, none⟩ = some (.slice A3 n3 c3) ∧ w'.cell? ⟨w.heap.size + 1, 1, none⟩ = some (.slice A4 n4 c4))
      ((refine HS.out _ ?_; first | exact (Below.refl _ _).drew | assumption | exact bstep (And.left ‹Below V.heap.size V _ ∧ _›) (balloc _ _) | go_grown))
      (first
        | (go_at_call 82; (with_reducible refine (CA _ (rx.step (And.left ‹Below V.heap.size V _ ∧ _›))).mono ?_); rintro e w' ⟨rfl, rfl⟩)
        | (go_at_call 83; (with_reducible refine (c_less (w := (V.alloc (.cells #[.slice none 0 0, .slice none 0 0] 58)).drew) a (rx.step (And.left ‹Below V.heap.size V _ ∧ _›)) (ry.step (And.left ‹Below V.heap.size V _ ∧ _›))).mono ?_); rintro e w7 ⟨v7, rfl, ⟨A7, n7, c7, A8, n8, c8, rfl, q7, q8, l7, l8⟩, b7⟩; have kB7 := bstep (And.left ‹Below V.heap.size V _ ∧ _›) b7; have kg := (Blk.new V 58 #[.slice none 0 0, .slice none 0 0]).drew.below b7 (by simp); have zs := Nat.le_refl V.heap.size; obtain ⟨z0, z1, z2, z3⟩ := cells2 kg)
        | (go_at_call 83; (with_reducible refine (c_less (w := V.drew.alloc (.cells #[.slice none 0 0, .slice none 0 0] 58)) a (rx.step (And.left ‹Below V.heap.size V _ ∧ _›)) (ry.step (And.left ‹Below V.heap.size V _ ∧ _›))).mono ?_); rintro e w7 ⟨v7, rfl, ⟨A7, n7, c7, A8, n8, c8, rfl, q7, q8, l7, l8⟩, b7⟩; have kB7 := bstep (And.left ‹Below V.heap.size V _ ∧ _›) b7; have kg := (Blk.new V.drew 58 #[.slice none 0 0, .slice none 0 0]).below b7 (by simp); have zs := Nat.le_refl V.heap.size; obtain ⟨z0, z1, z2, z3⟩ := cells2 kg)
        | (go_at_call 83; (with_reducible refine (c_less a (rx.step (And.left ‹Below V.heap.size V _ ∧ _›)) (ry.step (And.left ‹Below V.heap.size V _ ∧ _›))).mono ?_); rintro e w7 ⟨v7, rfl, ⟨A7, n7, c7, A8, n8, c8, rfl, q7, q8, l7, l8⟩, b7⟩; have kB7 := bstep (And.left ‹Below V.heap.size V _ ∧ _›) b7; have zs := kB7.size))
    all_goals
      go_wp2_with fail
      go_meet
      have r7 : RowIs w7 (lessR r a o).1 (.agg #[.slice A7 n7 c7, .slice A8 n8 c8]) := ⟨_, _, _, _, _, _, rfl, q7, q8, l7, l8⟩
      first
      | exact ⟨_, rfl, rfl, Holds.set kg r7, (kB7.setCell zs _).setCell zs _⟩
      | exact ⟨_, rfl, rfl, Holds.new r7, bstep kB7 (balloc _ _)⟩
  case rest =>
    obtain ⟨g8, rfl, rfl, ⟨A9, n9, c9, A10, n10, c10, b8, r8⟩, hB6⟩ := hcut
    replace hg := hg.below hB6 hg.lt
    replace hb0 := bstep hb0 hB6
    clear HS CA hB6
    obtain ⟨hc0, hc1, hf0, hf1⟩ := cells2 hg
    obtain ⟨hd0, hd1, he0, he1⟩ := cells2 b8
    go_wp2_with fail
    obtain ⟨r11, r12, l11, l12⟩ := r8.parts
    refine end_row (v := .agg #[.slice A9 n9 c9, .slice A10 n10 c10]) hg (by intro W e0 e1; simp [results, Try.results79, go_sem, e0, e1]) rfl fun W hl => ?_
    rw [HL.out]
    exact RowEnds.mk (hl.row r11 hg NoBytes.two) (hl.row r12 hg NoBytes.two) l11 l12 (hl.below _ _ (by omega) hb0)
end Go.Proofs.Ytaidbcppecoenaa

