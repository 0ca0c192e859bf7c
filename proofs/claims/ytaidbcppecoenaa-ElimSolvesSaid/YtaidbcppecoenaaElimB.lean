import Derived.Test.YtaidbcppecoenaaElimA
import Derived.Test.YtaidbcppecoenaaSysM
import Derived.Test.YtaidbcppecoenaaGridI
/- Package elim: what a system of equations is in memory, and what a call that changes it leaves as it was. -/
namespace Go.Proofs.Ytaidbcppecoenaa
open Go.RowKit
set_option linter.unusedVariables false
set_option maxRecDepth 100000

/-- All blocks but those in P are as they were. -/
structure Chg (P : Nat → Prop) (w w' : World) : Prop where
  os : w'.os = w.os
  tape : w'.tape = w.tape
  output : w'.output = w.output
  size : w.heap.size ≤ w'.heap.size
  block : ∀ g, g < w.heap.size → ¬ P g → w'.heap[g]? = w.heap[g]?
theorem Chg.refl (P : Nat → Prop) (w : World) : Chg P w w := ⟨rfl, rfl, rfl, Nat.le_refl _, fun _ _ _ => rfl⟩
theorem Chg.of_below {P : Nat → Prop} {w w' : World} (h : Below w.heap.size w w') : Chg P w w' := ⟨h.os, h.tape, h.output, h.size, fun g hg _ => h.block g hg⟩
theorem Chg.trans {P : Nat → Prop} {a b c : World} (h : Chg P a b) (k : Chg P b c) : Chg P a c :=
  ⟨k.os.trans h.os, k.tape.trans h.tape, k.output.trans h.output, Nat.le_trans h.size k.size, fun g hg hp => (k.block g (Nat.lt_of_lt_of_le hg h.size) hp).trans (h.block g hg hp)⟩
theorem Chg.imp {P Q : Nat → Prop} {a b : World} (h : Chg P a b) (hq : ∀ g, P g → Q g) : Chg Q a b := ⟨h.os, h.tape, h.output, h.size, fun g hg hp => h.block g hg fun hP => hp (hq g hP)⟩
theorem Chg.below {P : Nat → Prop} {B : Nat} {w w' : World} (h : Chg P w w') (hB : B ≤ w.heap.size) (hP : ∀ g, P g → B ≤ g) : Below B w w' :=
  ⟨h.os, h.tape, h.output, h.size, fun g hg => h.block g (Nat.lt_of_lt_of_le hg hB) fun hp => by have := hP g hp; omega⟩
theorem Chg.setCell {P : Nat → Prop} {w w' : World} (h : Chg P w w') {p : Addr} (hp : P p.block) (v : Value) : Chg P w (w'.setCell p v) := by
  refine ⟨h.os, h.tape, h.output, by simpa [World.setCell] using h.size, fun g hg hg2 => ?_⟩
  rw [Below.heap_setCell w' p v g (fun e => hg2 (e ▸ hp))]
  exact h.block g hg hg2
theorem Chg.alloc {P : Nat → Prop} {w w' : World} (h : Chg P w w') (o : Obj) : Chg P w (w'.alloc o) :=
  h.trans (Chg.of_below (balloc w' o))
theorem Blk.chg {P : Nat → Prop} {w w' : World} {g : Nat} {t : TypeId} {cs : Array Value} (h : Blk w g t cs) (hc : Chg P w w') (hg : ¬ P g) : Blk w' g t cs := (hc.block g h.lt hg).trans h
/-- Blocks without bytes. -/
def Byteless (w : World) (P : Nat → Prop) : Prop := ∀ g, P g → ∀ i u, w.cell? ⟨g, i, none⟩ ≠ some (.int .u8 (bv u))
theorem cell_chg {P : Nat → Prop} {w w' : World} {p : Addr} (hc : Chg P w w') (h1 : p.block < w.heap.size) (h2 : ¬ P p.block) : w'.cell? p = w.cell? p := by
  unfold World.cell?
  rw [hc.block _ h1 h2]
theorem Rd.chg {P : Nat → Prop} {w w' : World} {n : Nat} {A : Option Addr} {us : List UInt8} (h : Rd w w.heap.size A n us) (hc : Chg P w w') (hp : Byteless w P) : Rd w' w'.heap.size A n us :=
  ⟨h.1, fun hn => by
    obtain ⟨b, off, e, hb, hk⟩ := h.2 hn
    refine ⟨b, off, e, Nat.lt_of_lt_of_le hb hc.size, fun i u hu => ?_⟩
    have h1 := hk i u hu
    rw [cell_chg (p := ⟨b, off + i, none⟩) hc hb fun hP => hp b hP _ _ h1]
    exact h1⟩
theorem RowIs.chg {P : Nat → Prop} {w w' : World} {r : RowL} {x : Value} (h : RowIs w r x) (hc : Chg P w w') (hp : Byteless w P) : RowIs w' r x := by
  obtain ⟨A1, n1, c1, A2, n2, c2, rfl, p1, p2, l1, l2⟩ := h
  exact RowIs.mk (p1.chg hc hp) (p2.chg hc hp) l1 l2
end Go.Proofs.Ytaidbcppecoenaa

