import Derived.Test.YtilelmejpbnbnaaKernC
/- The calls of package kern and the document's own, each by one contract for all inputs. -/
namespace Go.Proofs.Ytilelmejpbnbnaa
open Go.RowKit
set_option linter.unusedVariables false
set_option maxRecDepth 100000

/-- A row and a code are answered. -/
def RowSays (r : List UInt8 × Int) (w : World) (e : Ending) (w' : World) : Prop :=
  ∃ A n c, e = .returned (.tuple #[.slice A n c, .int .i64 r.2]) ∧ Rd w' w'.heap.size A n r.1 ∧ n ≤ 140737488355328 ∧ Below w.heap.size w w'
theorem RowSays.none_ {w w' : World} {k : Int} (hb : Below w.heap.size w w') : RowSays ([], k) w (.returned (.tuple #[.slice none 0 0, .int .i64 k])) w' := ⟨none, 0, 0, rfl, Rd.nil, by omega, hb⟩
theorem RowSays.blk {w w' : World} {g n : Nat} {us : List UInt8} {k : Int} (hl : us.length = n) (hg : Blk w' g 5 (bvs us).toArray) (hn : n ≤ 140737488355328) (hb : Below w.heap.size w w') : RowSays (us, k) w (.returned (.tuple #[.slice (some ⟨g, 0, none⟩) n n, .int .i64 k])) w' := by
  subst hl
  exact ⟨some ⟨g, 0, none⟩, _, _, rfl, (Rd.of_blk hg).more hg.lt, hn, hb⟩
def first (rows : List (List UInt8)) : Nat := (rows[0]?.getD []).length
def Short (rows : List (List UInt8)) : Prop := ∀ r ∈ rows, r.length ≤ 140737488355327
theorem Short.first {rows : List (List UInt8)} (h : Short rows) : first rows ≤ 140737488355327 := by
  unfold Go.Proofs.Ytilelmejpbnbnaa.first
  cases rows with
  | nil => simp
  | cons r rs => simpa using h r (List.mem_cons_self ..)
def axpyR (x : UInt8) (us vs : List UInt8) : List UInt8 × Int := if us.length ≠ vs.length then ([], 4) else (addL x us vs, 0)
theorem axpy_all {B B2 : Nat} {A A2 : Option Addr} {n n2 c c2 : Nat} (x : UInt8) {us vs : List UInt8} {w : World} (h : Rd w B A n us) (h2 : Rd w B2 A2 n2 vs) (hB : B ≤ w.heap.size) (hB2 : B2 ≤ w.heap.size) (hn : n ≤ 140737488355328) :
    Calls Try.prog 99 #[.int .u8 (bv x), .slice A n c, .slice A2 n2 c2] w (RowSays (axpyR x us vs) w) := by
  have e1 := h.1
  have e2 := h2.1
  by_cases hl : n = n2
  · subst hl
    have : axpyR x us vs = (addL x us vs, 0) := by simp [axpyR, e1, e2]
    rw [this]
    exact (axpy_any x h h2 hB hB2 hn).mono fun e w' ⟨g, he, _, hg, hw⟩ => by subst he; exact RowSays.blk (by rw [addL_length, e2]) hg hn hw
  · have : axpyR x us vs = ([], 4) := by simp [axpyR, e1, e2, hl]
    rw [this]
    exact (axpy_size x hl).mono fun e w' ⟨he, hw⟩ => by subst he; subst hw; exact RowSays.none_ (Below.refl _ _)
end Go.Proofs.Ytilelmejpbnbnaa
