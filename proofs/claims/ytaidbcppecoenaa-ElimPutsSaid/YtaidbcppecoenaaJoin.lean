import Derived.Test.YtaidbcppecoenaaWords2
import Derived.Shelf.Bytes.SlJoin
/- bytes.Join with nothing between: the library's contract, laid at this program, and in this seat's words. -/
namespace Go.Proofs
open Go.Shelf
def Ytaidbcppecoenaa.joinRen : Go.Shelf.Ren := ⟨fun | 14 => 80 | 15 => 98 | n => n, fun | 0 => 0 | 3 => 3 | 4 => 4 | 9 => 9 | 20 => 20 | 22 => 52 | 26 => 22 | 5 => 5 | n => n, fun n => n⟩
theorem Ytaidbcppecoenaa.joinLaid : SlLaysJ.n14 Try.prog Ytaidbcppecoenaa.joinRen := {
  mixed := by kernel_rfl
  f14 := Try.func80.trans (congrArg some (by kernel_rfl))
  f15 := Try.func98.trans (congrArg some (by kernel_rfl))
  t0 := Try.underlying0
  a0 := Try.isAgg0
  z0 := Try.sizeOf0
  v0 := Try.zeroValue0
  t3 := Try.underlying3
  a3 := Try.isAgg3
  z3 := Try.sizeOf3
  v3 := Try.zeroValue3
  t4 := Try.underlying4
  a4 := Try.isAgg4
  z4 := Try.sizeOf4
  v4 := Try.zeroValue4
  t9 := Try.underlying9
  a9 := Try.isAgg9
  z9 := Try.sizeOf9
  v9 := Try.zeroValue9
  t20 := Try.underlying20
  a20 := Try.isAgg20
  z20 := Try.sizeOf20
  v20 := Try.zeroValue20
  t22 := Try.underlying52
  a22 := Try.isAgg52
  z22 := Try.sizeOf52
  v22 := Try.zeroValue52
  t26 := Try.underlying22
  a26 := Try.isAgg22
  z26 := Try.sizeOf22
  v26 := Try.zeroValue22
  t5 := Try.underlying5
  z5 := Try.sizeOf5
  i5 := by kernel_rfl }
end Go.Proofs
namespace Go.Proofs.Ytaidbcppecoenaa
open Go.RowKit
set_option linter.unusedVariables false
set_option maxRecDepth 100000

theorem Rd.cells {w : World} {B n : Nat} {A : Option Addr} {us : List UInt8} (h : Rd w B A n us) : (A = none → us = []) ∧ ∀ a, A = some a → ∀ (i : Nat) x, us[i]? = some x → w.cell? (a.add i) = some (.int .u8 (x.toNat : Int)) := by
  constructor
  · intro hA
    refine List.eq_nil_of_length_eq_zero (Nat.eq_zero_of_not_pos fun hp => ?_)
    obtain ⟨b, off, e, _⟩ := h.2 (by rw [← h.1]; exact hp)
    rw [hA] at e
    cases e
  · intro a ha i x hx
    have hi := (List.getElem?_eq_some_iff.1 hx).1
    obtain ⟨b, off, e, _, hc⟩ := h.2 (by rw [← h.1]; omega)
    rw [ha] at e
    injection e with e
    subst e
    rw [addr_add]
    exact hc i x hx
theorem Rds.parts {w : World} {B n b off : Nat} {rows : List (List UInt8)} (h : Rds w B (some ⟨b, off, none⟩) n rows) (hn : 0 < n) : ∃ vs, Lib.PartsAt w ⟨b, off, none⟩ vs rows := by
  obtain ⟨b', off', e, hb, hc⟩ := h.2 hn
  injection e with e
  injection e with e1 e2
  subst e1 e2
  refine ⟨(List.range n).map fun i => (w.cell? ⟨b, off + i, none⟩).getD undef, by simp [h.1], fun i v hv => ?_, fun i v l hv hl => ?_⟩
  all_goals
    have hi : i < n := by
      have := (List.getElem?_eq_some_iff.1 hv).1
      simpa using this
    have hir : i < rows.length := by rw [h.1]; exact hi
    obtain ⟨Ai, ci, h1, h2⟩ := hc i rows[i] (List.getElem?_eq_getElem hir)
    rw [List.getElem?_map, List.getElem?_range hi] at hv
    simp only [Option.map_some, Option.some.injEq, h1, Option.getD_some] at hv
    subst hv
  · rw [addr_add]; exact h1
  · rw [List.getElem?_eq_getElem hir] at hl
    injection hl with hl
    subst hl
    obtain ⟨h3, h4⟩ := h2.cells
    exact ⟨Ai, ci, rfl, h3, h4⟩
end Go.Proofs.Ytaidbcppecoenaa

