import Derived.Test.YtaidbcppecoenaaVecB
import Derived.Test.YtaidbcppecoenaaCaps
import Derived.Laws.IdiomStrings
import Derived.IntWalk
/- Rows made one by one, rows that are the same, and bytes copied. -/
namespace Go.Proofs.Ytaidbcppecoenaa
open Go.RowKit
set_option linter.unusedVariables false
set_option maxRecDepth 100000

def GridEnds (v : Value) (w : World) (e : Ending) (w' : World) : Prop := e = .returned v ∧ Below w.heap.size w w'
def IsSl (v : Value) : Prop := ∃ A n c, v = .slice A n c
/-- Block g holds n slices; the first ones read as these rows. -/
def Filled (w : World) (g n : Nat) (rows : List (List UInt8)) : Prop :=
  ∃ cs : List Value, cs.length = n ∧ Blk w g 52 cs.toArray ∧ (∀ v ∈ cs, IsSl v) ∧ rows.length ≤ n ∧ ∀ (i : Nat) us, rows[i]? = some us → ∃ A c, cs[i]? = some (.slice A us.length c) ∧ Rd w w.heap.size A us.length us
theorem NoBytes.sl {cs : List Value} (h : ∀ v ∈ cs, IsSl v) : NoBytes cs.toArray := by
  intro i v u hv e
  have hm : v ∈ cs := by
    have := Array.mem_of_getElem? hv
    simpa using this
  obtain ⟨A, n, c, rfl⟩ := h v hm
  cases e
theorem Filled.lt {w : World} {g n : Nat} {rows : List (List UInt8)} (h : Filled w g n rows) : g < w.heap.size := by
  obtain ⟨cs, _, h2, _⟩ := h
  exact h2.lt
theorem Filled.step {w w' : World} {g n : Nat} {rows : List (List UInt8)} (h : Filled w g n rows) (hb : Below w.heap.size w w') : Filled w' g n rows := by
  obtain ⟨cs, h1, h2, h3, h4, h5⟩ := h
  refine ⟨cs, h1, h2.below hb h2.lt, h3, h4, fun i us hu => ?_⟩
  obtain ⟨A, c, h6, h7⟩ := h5 i us hu
  exact ⟨A, c, h6, h7.step hb⟩
theorem Filled.cell {w : World} {g n k : Nat} {rows : List (List UInt8)} (h : Filled w g n rows) (hk : k < n) : (∃ A m c, w.cell? ⟨g, k, none⟩ = some (.slice A m c)) ∧ w.frozen? ⟨g, k, none⟩ = false := by
  obtain ⟨cs, h1, h2, h3, _⟩ := h
  refine ⟨?_, h2.frozen k⟩
  rw [h2.cell k]
  have hk' : k < cs.length := by omega
  obtain ⟨A, m, c, e⟩ := h3 cs[k] (List.getElem_mem hk')
  exact ⟨A, m, c, by simp [hk', e]⟩
theorem Filled.put {w : World} {g n c k m : Nat} {A : Option Addr} {us : List UInt8} {rows : List (List UInt8)} (h : Filled w g n rows) (hk : rows.length = k) (hkn : k < n) (hm : us.length = m) (hr : Rd w w.heap.size A m us) :
    Filled (w.setCell ⟨g, k, none⟩ (.slice A m c)) g n (rows ++ [us]) := by
  subst hm hk
  obtain ⟨cs, h1, h2, h3, h4, h5⟩ := h
  have hs : (w.setCell ⟨g, rows.length, none⟩ (.slice A us.length c)).heap.size = w.heap.size := by simp [World.setCell]
  have hset : Blk (w.setCell ⟨g, rows.length, none⟩ (.slice A us.length c)) g 52 (cs.set rows.length (.slice A us.length c)).toArray := by
    have := h2.set rows.length (.slice A us.length c)
    simpa using this
  refine ⟨cs.set rows.length (.slice A us.length c), by simpa using h1, hset, ?_, by simp; omega, fun i us' hu => ?_⟩
  · intro v hv
    rcases List.mem_or_eq_of_mem_set hv with hv | rfl
    · exact h3 v hv
    · exact ⟨_, _, _, rfl⟩
  · rw [hs]
    by_cases hi : i < rows.length
    · rw [List.getElem?_append_left hi] at hu
      obtain ⟨A', c', h6, h7⟩ := h5 i us' hu
      refine ⟨A', c', ?_, ?_⟩
      · rw [List.getElem?_set_ne (by omega)]; exact h6
      · exact h7.far h2 (NoBytes.sl h3) fun p hp => World.cell?_setCell_far _ _ _ _ (fun e => hp e.symm)
    · have hi' : i = rows.length := by
        have := (List.getElem?_eq_some_iff.1 hu).1
        simp at this; omega
      subst hi'
      rw [List.getElem?_append_right (by omega)] at hu
      simp at hu
      subst hu
      refine ⟨A, c, ?_, ?_⟩
      · rw [List.getElem?_set_self (by omega)]
      · exact hr.far h2 (NoBytes.sl h3) fun p hp => World.cell?_setCell_far _ _ _ _ (fun e => hp e.symm)
theorem Filled.rds {w : World} {g n : Nat} {rows : List (List UInt8)} (h : Filled w g n rows) (hn : rows.length = n) : Rds w w.heap.size (some ⟨g, 0, none⟩) n rows := by
  obtain ⟨cs, h1, h2, h3, h4, h5⟩ := h
  refine ⟨hn, fun hp => ⟨g, 0, rfl, h2.lt, fun i us hu => ?_⟩⟩
  obtain ⟨A, c, h6, h7⟩ := h5 i us hu
  refine ⟨A, c, ?_, h7⟩
  rw [Nat.zero_add, h2.cell i]
  simpa using h6
def nils (n : Nat) : List Value := List.replicate n (.slice none 0 0)
theorem Filled.new (w : World) (n : Nat) : Filled (w.alloc (.cells (nils n).toArray 52)) w.heap.size n [] := by
  refine ⟨nils n, by simp [nils], Blk.new _ _ _, ?_, by simp, fun i us h => by simp at h⟩
  intro v hv
  simp only [nils, List.mem_replicate] at hv
  exact ⟨_, _, _, hv.2⟩
theorem make_rows (n : Nat) (hn : n ≤ 5864062014805) (w : World) : (Instr.makeSlice 22 (.int .i64 (n : Int)) (.int .i64 (n : Int))).run Try.prog w =
    .ok (.slice (some ⟨w.heap.size, 0, none⟩) n n) (w.alloc (.cells (nils n).toArray 52)) := by
  obtain ⟨i0, hi0, hz0, hz1, hz2⟩ := info_parts row_info
  have h := run_make (P := Try.prog) w 22 52 i0 _ Try.underlying22 hi0 hz0 .i64 .i64 (n : Int) (n : Int) (by omega) (Int.le_refl _) (by rw [hz2]; omega) (by omega)
  rw [h]
  simp only [Int.toNat_natCast, hz1, Nat.mul_one]
  have e : madeCells (Value.slice none 0 0).cells n = (nils n).toArray := by
    apply Array.ext'
    have := toList_madeCells_one (.slice none 0 0) n
    simp only [Value.cells]
    rw [this]
    simp [nils]
  rw [e]
theorem take_get {α : Type} {l : List α} {k : Nat} (d : α) (h : k < l.length) : l.take k ++ [l[k]?.getD d] = l.take (k + 1) := by
  rw [List.take_succ_eq_append_getElem h, List.getElem?_eq_getElem h]; rfl
def sameRows (a b : List (List UInt8)) : Bool := decide (a = b)
theorem differ {a b : List (List UInt8)} {k : Nat} (h : (a[k]?.getD [] == b[k]?.getD []) = false) : sameRows a b = false := by
  unfold sameRows
  rw [decide_eq_false_iff_not]
  rintro rfl
  simp at h
/-- The first n bytes of a row, with noughts behind. -/
def cutTo (n : Nat) (us : List UInt8) : List UInt8 := us.take n ++ nulls (n - us.length)
theorem cutTo_len (n : Nat) (us : List UInt8) : (cutTo n us).length = n := by simp [cutTo, nulls]; omega
theorem copy_some {ops : Array Oper} {rest : List Oper} {o : Oper} {a : Act} {Q : Exit → Act → World → Prop} {w : World} (hgd : o.guard = none) (d s : Operand)
    (ho : o.op = .call { callee := .builtin .copy, args := #[d, s], argTypes := #[52, 52] }) (g n m c : Nat) (A : Option Addr) (us : List UInt8)
    (hd : a.eval d = .slice (some ⟨g, 0, none⟩) n n) (hs : a.eval s = .slice A m c) (hg : Blk w g 5 (bvs (nulls n)).toArray) {B : Nat} (hr : Rd w B A m us)
    (B0 : Nat) (w0 : World) (hb : Below B0 w0 w) (hBg : B0 ≤ g)
    (h : ∀ w', Blk w' g 5 (bvs (cutTo n us)).toArray → Below B0 w0 w' → wpList Try.prog ops Q rest (a.put o.dst (goInt (Nat.min m n))) w') : wpList Try.prog ops Q (o :: rest) a w := by
  have hl : (bvs (us.take n)).length = Nat.min m n := by rw [bvs_length, List.length_take, hr.1]; exact Nat.min_comm _ _
  refine wpList_copy_splice hgd d s _ _ ho 5 Try.underlying52 (by kernel_rfl) (some ⟨g, 0, none⟩) A n n m c hd hs g 0 (bvs (nulls n)) 5 hg (bvs (us.take n)) hl (fun hp => ⟨rfl, ?_⟩) (by rw [hl, bvs_length]; simp [nulls]; exact Nat.min_le_right _ _) (bvs_one _) B0 w0 hb hBg ?_
  · obtain ⟨ad, e, hc⟩ := hr.adds (by rw [hl] at hp; exact Nat.lt_of_lt_of_le hp (Nat.min_le_left _ _))
    refine ⟨ad, e, fun j v hv => hc j v ?_⟩
    simp only [bvs, List.map_take, List.getElem?_take] at hv
    split at hv
    · exact hv
    · cases hv
  · intro w' hw' hb'
    have h2 := h w' (by
      have := hw'.out
      have e2 : splice (bvs (nulls n)) 0 (bvs (us.take n)) = bvs (cutTo n us) := by
        have hm := hr.1
        have e3 : (bvs (nulls n)).drop (Nat.min m n) = bvs (nulls (n - us.length)) := by
          have e4 : n - Nat.min m n = n - us.length := by rw [hm]; show n - min m n = n - m; omega
          simp only [bvs, nulls, List.map_replicate, List.drop_replicate, e4]
        unfold splice cutTo
        rw [hl, Nat.zero_add, e3]
        simp [bvs]
      rw [e2] at this
      exact this) hb'
    rwa [hl]
end Go.Proofs.Ytaidbcppecoenaa

