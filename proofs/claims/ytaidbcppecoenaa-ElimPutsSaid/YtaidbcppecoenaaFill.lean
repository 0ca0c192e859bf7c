import Derived.Test.YtaidbcppecoenaaVecB
import Derived.Test.YtaidbcppecoenaaCaps
import Derived.Laws.IdiomStrings
import Derived.IntWalk
/- Rows made one by one, rows that are the same, and bytes copied. -/
namespace Go.Proofs.Ytaidbcppecoenaa
open Go.RowKit
set_option linter.unusedVariables false
set_option maxRecDepth 100000

def GridEnds (v : Value) (w : World) (e : Ending) (w' : World) : Prop := e = .returned v ∧ Below w.heap.size w w'
def IsSl (v : Value) : Prop := ∃ A n c, v = .slice A n c
/-- Block g holds n slices; the first ones read as these rows. -/
def Filled (w : World) (g n : Nat) (rows : List (List UInt8)) : Prop :=
  ∃ cs : List Value, cs.length = n ∧ Blk w g 52 cs.toArray ∧ (∀ v ∈ cs, IsSl v) ∧ rows.length ≤ n ∧ ∀ (i : Nat) us, rows[i]? = some us → ∃ A c, cs[i]? = some (.slice A us.length c) ∧ Rd w w.heap.size A us.length us
theorem NoBytes.sl {cs : List Value} (h : ∀ v ∈ cs, IsSl v) : NoBytes cs.toArray := by
  intro i v u hv e
  have hm : v ∈ cs := by
    have := Array.mem_of_getElem? hv
    simpa using this
  obtain ⟨A, n, c, rfl⟩ := h v hm
  cases e
theorem Filled.lt {w : World} {g n : Nat} {rows : List (List UInt8)} (h : Filled w g n rows) : g < w.heap.size := by
  obtain ⟨cs, _, h2, _⟩ := h
  exact h2.lt
theorem Filled.step {w w' : World} {g n : Nat} {rows : List (List UInt8)} (h : Filled w g n rows) (hb : Below w.heap.size w w') : Filled w' g n rows := by
  obtain ⟨cs, h1, h2, h3, h4, h5⟩ := h
  refine ⟨cs, h1, h2.below hb h2.lt, h3, h4, fun i us hu => ?_⟩
  obtain ⟨A, c, h6, h7⟩ := h5 i us hu
  exact ⟨A, c, h6, h7.step hb⟩
theorem Filled.cell {w : World} {g n k : Nat} {rows : List (List UInt8)} (h : Filled w g n rows) (hk : k < n) : (∃ A m c, w.cell? ⟨g, k, none⟩ = some (.slice A m c)) ∧ w.frozen? ⟨g, k, none⟩ = false := by
  obtain ⟨cs, h1, h2, h3, _⟩ := h
  refine ⟨?_, h2.frozen k⟩
  rw [h2.cell k]
  have hk' : k < cs.length := by omega
  obtain ⟨A, m, c, e⟩ := h3 cs[k] (List.getElem_mem hk')
  exact ⟨A, m, c, by simp [hk', e]⟩
theorem Filled.put {w : World} {g n c k m : Nat} {A : Option Addr} {us : List UInt8} {rows : List (List UInt8)} (h : Filled w g n rows) (hk : rows.length = k) (hkn : k < n) (hm : us.length = m) (hr : Rd w w.heap.size A m us) :
    Filled (w.setCell ⟨g, k, none⟩ (.slice A m c)) g n (rows ++ [us]) := by
  subst hm hk
  obtain ⟨cs, h1, h2, h3, h4, h5⟩ := h
  have hs : (w.setCell ⟨g, rows.length, none⟩ (.slice A us.length c)).heap.size = w.heap.size := by simp [World.setCell]
  have hset : Blk (w.setCell ⟨g, rows.length, none⟩ (.slice A us.length c)) g 52 (cs.set rows.length (.slice A us.length c)).toArray := by
    have := h2.set rows.length (.slice A us.length c)
    simpa using this
  refine ⟨cs.set rows.length (.slice A us.length c), by simpa using h1, hset, ?_, by simp; omega, fun i us' hu => ?_⟩
  · intro v hv
    rcases List.mem_or_eq_of_mem_set hv with hv | rfl
    · exact h3 v hv
    · exact ⟨_, _, _, rfl⟩
  · rw [hs]
    by_cases hi : i < rows.length
    · rw [List.getElem?_append_left hi] at hu
      obtain ⟨A', c', h6, h7⟩ := h5 i us' hu
      refine ⟨A', c', ?_, ?_⟩
      · rw [List.getElem?_set_ne (by omega)]; exact h6
      · exact h7.far h2 (NoBytes.sl h3) fun p hp => World.cell?_setCell_far _ _ _ _ (fun e => hp e.symm)
    · have hi' : i = rows.length := by
        have := (List.getElem?_eq_some_iff.1 hu).1
        simp at this; omega
      subst hi'
      rw [List.getElem?_append_right (by omega)] at hu
      simp at hu
      subst hu
      refine ⟨A, c, ?_, ?_⟩
      · rw [List.getElem?_set_self (by omega)]
      · exact hr.far h2 (NoBytes.sl h3) fun p hp => World.cell?_setCell_far _ _ _ _ (fun e => hp e.symm)
theorem Filled.rds {w : World} {g n : Nat} {rows : List (List UInt8)} (h : Filled w g n rows) (hn : rows.length = n) : Rds w w.heap.size (some ⟨g, 0, none⟩) n rows := by
  obtain ⟨cs, h1, h2, h3, h4, h5⟩ := h
  refine ⟨hn, fun hp => ⟨g, 0, rfl, h2.lt, fun i us hu => ?_⟩⟩
  obtain ⟨A, c, h6, h7⟩ := h5 i us hu
  refine ⟨A, c, ?_, h7⟩
  rw [Nat.zero_add, h2.cell i]
  simpa using h6
def nils (n : Nat) : List Value := List.replicate n (.slice none 0 0)
theorem Filled.new (w : World) (n : Nat) : Filled (w.alloc (.cells (nils n).toArray 52)) w.heap.size n [] := by
  refine ⟨nils n, by simp [nils], Blk.new _ _ _, ?_, by simp, fun i us h => by simp at h⟩
  intro v hv
  simp only [nils, List.mem_replicate] at hv
  exact ⟨_, _, _, hv.2⟩
theorem make_rows (n : Nat) (hn : n ≤ 5864062014805) (w : World) : (Instr.makeSlice 22 (.int .i64 (n : Int)) (.int .i64 (n : Int))).run Try.prog w =
    .ok (.slice (some ⟨w.heap.size, 0, none⟩) n n) (w.alloc (.cells (nils n).toArray 52)) := by
  obtain ⟨i0, hi0, hz0, hz1, hz2⟩ := info_parts row_info
  have h := run_make (P := Try.prog) w 22 52 i0 _ Try.underlying22 hi0 hz0 .i64 .i64 (n : Int) (n : Int) (by omega) (Int.le_refl _) (by rw [hz2]; omega) (by omega)
  rw [h]
  simp only [Int.toNat_natCast, hz1, Nat.mul_one]
  have e : madeCells (Value.slice none 0 0).cells n = (nils n).toArray := by
    apply Array.ext'
    have := toList_madeCells_one (.slice none 0 0) n
    simp only [Value.cells]
    rw [this]
    simp [nils]
  rw [e]
theorem ret_bool {a b : Bool} (h : a = b) : Ending.returned (.bool a) = .returned (.bool b) := by rw [h]
theorem take_get {α : Type} {l : List α} {k : Nat} (d : α) (h : k < l.length) : l.take k ++ [l[k]?.getD d] = l.take (k + 1) := by
  rw [List.take_succ_eq_append_getElem h, List.getElem?_eq_getElem h]; rfl
def sameRows (a b : List (List UInt8)) : Bool := decide (a = b)
theorem differ {a b : List (List UInt8)} {k : Nat} (h : (a[k]?.getD [] == b[k]?.getD []) = false) : sameRows a b = false := by
  unfold sameRows
  rw [decide_eq_false_iff_not]
  rintro rfl
  simp at h
/-- The first n bytes of a row, with noughts behind. -/
def cutTo (n : Nat) (us : List UInt8) : List UInt8 := us.take n ++ nulls (n - us.length)
theorem cutTo_len (n : Nat) (us : List UInt8) : (cutTo n us).length = n := by simp [cutTo, nulls]; omega
/-- A guard: only at a copy. -/
theorem at_copy {P : Program} {ops : Array Oper} {rest : List Oper} {dst : Option Nat} {args : Array Operand} {ts : Array TypeId} {ty : TypeId} {pos : String} {after : Array Edge} {g : Option (Nat × Bool)} {a : Act} {Q : Exit → Act → World → Prop} {w : World}
    (h : wpList P ops Q ({ dst := dst, op := .call { callee := .builtin .copy, args := args, argTypes := ts }, type := ty, pos := pos, after := after, guard := g } :: rest) a w) : wpList P ops Q ({ dst := dst, op := .call { callee := .builtin .copy, args := args, argTypes := ts }, type := ty, pos := pos, after := after, guard := g } :: rest) a w := h
end Go.Proofs.Ytaidbcppecoenaa

