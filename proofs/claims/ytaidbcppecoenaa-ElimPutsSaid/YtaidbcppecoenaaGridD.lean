import Derived.Test.YtaidbcppecoenaaGridA
import Derived.Laws.IdiomStrings
import Derived.IntWalk
import Derived.Deep.DeepCutAuto
import Derived.Deep.CutRange
/- Stairs: a row less another one; a row put on them; a grid's rank. -/
namespace Go.Proofs.Ytaidbcppecoenaa
open Go.RowKit
set_option linter.unusedVariables false
set_option maxRecDepth 100000

theorem cells22 {V : World} {g h : Nat} {T T' : TypeId} {a b c d : Value} (h1 : Blk V g T #[a, b]) (h2 : Blk V h T' #[c, d]) {w' : World} (hb : Below V.heap.size V w') :
    w'.cell? ⟨g, 0, none⟩ = some a ∧ w'.cell? ⟨g, 1, none⟩ = some b ∧ w'.cell? ⟨h, 0, none⟩ = some c ∧ w'.cell? ⟨h, 1, none⟩ = some d := by
  obtain ⟨x0, x1, _⟩ := cells2 (h1.below hb h1.lt)
  obtain ⟨y0, y1, _⟩ := cells2 (h2.below hb h2.lt)
  exact ⟨x0, x1, y0, y1⟩
theorem RowIs.mk {w : World} {r : List UInt8 × List UInt8} {A A2 : Option Addr} {n c n2 c2 : Nat} (h1 : Rd w w.heap.size A n r.1) (h2 : Rd w w.heap.size A2 n2 r.2) (l1 : n ≤ 140737488355327) (l2 : n2 ≤ 140737488355327) : RowIs w r (.agg #[.slice A n c, .slice A2 n2 c2]) :=
  ⟨A, n, c, A2, n2, c2, rfl, h1, h2, l1, l2⟩
theorem RowIs.parts {w : World} {r : List UInt8 × List UInt8} {A A2 : Option Addr} {n c n2 c2 : Nat} (h : RowIs w r (.agg #[.slice A n c, .slice A2 n2 c2])) : Rd w w.heap.size A n r.1 ∧ Rd w w.heap.size A2 n2 r.2 ∧ n ≤ 140737488355327 ∧ n2 ≤ 140737488355327 := by
  obtain ⟨A', n', c', A2', n2', c2', e, q1, q2, l1, l2⟩ := h
  injection e with e
  simp only [Array.mk.injEq, List.cons.injEq, Value.slice.injEq, and_true] at e
  obtain ⟨⟨rfl, rfl, rfl⟩, rfl, rfl, rfl⟩ := e
  exact ⟨q1, q2, l1, l2⟩
theorem c_at {w : World} {r : List UInt8 × List UInt8} {A A2 : Option Addr} {n c n2 c2 : Nat} (h : RowIs w r (.agg #[.slice A n c, .slice A2 n2 c2])) (k : Int) (h1 : -9223372036854775808 ≤ k) (h2 : k ≤ 9223372036854775807) :
    Calls Try.prog 82 #[.slice A n c, .int .i64 k] w fun e w' => e = .returned (.int .u8 (bv (atB r.1 k))) ∧ w = w' := by
  obtain ⟨q1, q2, l1, l2⟩ := h.parts
  exact at_any q1 (by omega) k h1 h2
/-- What is left of a row, where the other one leads with a 1. -/
def lessAt (r : List UInt8 × List UInt8) (o : List UInt8 × List UInt8) (i : Int) : List UInt8 × List UInt8 := (lessR r (atB r.1 i) o).1
end Go.Proofs.Ytaidbcppecoenaa

