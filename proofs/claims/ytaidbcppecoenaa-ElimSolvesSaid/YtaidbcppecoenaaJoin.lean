import Derived.Test.YtaidbcppecoenaaWords2
import Derived.Shelf.Bytes.SlJoin
/- bytes.Join with nothing between: the library's contract, laid at this program, and in this seat's words. -/
namespace Go.Proofs
open Go.Shelf
def Ytaidbcppecoenaa.joinRen : Go.Shelf.Ren := ⟨fun | 14 => 80 | 15 => 98 | n => n, fun | 0 => 0 | 3 => 3 | 4 => 4 | 9 => 9 | 20 => 20 | 22 => 52 | 26 => 22 | 5 => 5 | n => n, fun n => n⟩
theorem Ytaidbcppecoenaa.joinLaid : SlLaysJ.n14 Try.prog Ytaidbcppecoenaa.joinRen := {
  mixed := by kernel_rfl
  f14 := Try.func80.trans (congrArg some (by kernel_rfl))
  f15 := Try.func98.trans (congrArg some (by kernel_rfl))
  t0 := Try.underlying0
  a0 := Try.isAgg0
  z0 := Try.sizeOf0
  v0 := Try.zeroValue0
  t3 := Try.underlying3
  a3 := Try.isAgg3
  z3 := Try.sizeOf3
  v3 := Try.zeroValue3
  t4 := Try.underlying4
  a4 := Try.isAgg4
  z4 := Try.sizeOf4
  v4 := Try.zeroValue4
  t9 := Try.underlying9
  a9 := Try.isAgg9
  z9 := Try.sizeOf9
  v9 := Try.zeroValue9
  t20 := Try.underlying20
  a20 := Try.isAgg20
  z20 := Try.sizeOf20
  v20 := Try.zeroValue20
  t22 := Try.underlying52
  a22 := Try.isAgg52
  z22 := Try.sizeOf52
  v22 := Try.zeroValue52
  t26 := Try.underlying22
  a26 := Try.isAgg22
  z26 := Try.sizeOf22
  v26 := Try.zeroValue22
  t5 := Try.underlying5
  z5 := Try.sizeOf5
  i5 := by kernel_rfl }
end Go.Proofs
namespace Go.Proofs.Ytaidbcppecoenaa
open Go.RowKit
set_option linter.unusedVariables false
set_option maxRecDepth 100000

theorem Rd.of_fresh {B : Nat} {w' : World} {v : Value} {l : List UInt8} (h : Lib.FreshBytes B w' v l) : ∃ A c, v = .slice A l.length c ∧ Rd w' w'.heap.size A l.length l := by
  obtain ⟨g, cap, zs, rfl, hg, hl, hm, hz, hr, hb, hc, hf⟩ := h
  refine ⟨_, _, rfl, rfl, fun hp => ⟨g, 0, rfl, ?_, fun i u hu => ?_⟩⟩
  · exact cell_lt (hc 0 (by omega))
  · have hi : i < l.length := (List.getElem?_eq_some_iff.1 hu).1
    rw [Nat.zero_add, hc i (by omega)]
    have hzi : i < zs.length := by omega
    have e : (Lib.bytesOf (zs.take l.length))[i]? = some u := by rw [hb]; exact hu
    have hx := hr zs[i] (List.getElem_mem _)
    unfold Lib.bytesOf at e
    rw [List.getElem?_map, List.getElem?_take, if_pos hi, List.getElem?_eq_getElem hzi] at e
    simp only [Option.map_some, Option.some.injEq] at e
    have : zs.getD i 0 = zs[i] := by simp [List.getD, hzi]
    rw [this, ← e, bv_ofNat _ (by omega)]
    congr 2
    omega
theorem Rd.cells {w : World} {B n : Nat} {A : Option Addr} {us : List UInt8} (h : Rd w B A n us) : (A = none → us = []) ∧ ∀ a, A = some a → ∀ (i : Nat) x, us[i]? = some x → w.cell? (a.add i) = some (.int .u8 (x.toNat : Int)) := by
  constructor
  · intro hA
    refine List.eq_nil_of_length_eq_zero (Nat.eq_zero_of_not_pos fun hp => ?_)
    obtain ⟨b, off, e, _⟩ := h.2 (by rw [← h.1]; exact hp)
    rw [hA] at e
    cases e
  · intro a ha i x hx
    have hi := (List.getElem?_eq_some_iff.1 hx).1
    obtain ⟨b, off, e, _, hc⟩ := h.2 (by rw [← h.1]; omega)
    rw [ha] at e
    injection e with e
    subst e
    rw [addr_add]
    exact hc i x hx
theorem Rds.parts {w : World} {B n b off : Nat} {rows : List (List UInt8)} (h : Rds w B (some ⟨b, off, none⟩) n rows) (hn : 0 < n) : ∃ vs, Lib.PartsAt w ⟨b, off, none⟩ vs rows := by
  obtain ⟨b', off', e, hb, hc⟩ := h.2 hn
  injection e with e
  injection e with e1 e2
  subst e1 e2
  refine ⟨(List.range n).map fun i => (w.cell? ⟨b, off + i, none⟩).getD undef, by simp [h.1], fun i v hv => ?_, fun i v l hv hl => ?_⟩
  all_goals
    have hi : i < n := by
      have := (List.getElem?_eq_some_iff.1 hv).1
      simpa using this
    have hir : i < rows.length := by rw [h.1]; exact hi
    obtain ⟨Ai, ci, h1, h2⟩ := hc i rows[i] (List.getElem?_eq_getElem hir)
    rw [List.getElem?_map, List.getElem?_range hi] at hv
    simp only [Option.map_some, Option.some.injEq, h1, Option.getD_some] at hv
    subst hv
  · rw [addr_add]; exact h1
  · rw [List.getElem?_eq_getElem hir] at hl
    injection hl with hl
    subst hl
    obtain ⟨h3, h4⟩ := h2.cells
    exact ⟨Ai, ci, rfl, h3, h4⟩
theorem lens_flat (rows : List (List UInt8)) : Lib.lens rows = rows.flatten.length := by
  unfold Lib.lens; rw [List.length_flatten]
/-- Rows joined, with nothing between. -/
theorem bjoin_any {B : Nat} {A : Option Addr} {n c : Nat} {rows : List (List UInt8)} {w : World} (h : Rds w B A n rows) (hB : B ≤ w.heap.size) (hc : n ≤ c) (h47 : n ≤ 140737488355328) (hl : rows.flatten.length ≤ 140737488355328) :
    Calls Try.prog 80 #[.slice A n c, .slice none 0 0] w fun e w' => ∃ A' n' c', e = .returned (.slice A' n' c') ∧ Rd w' w'.heap.size A' n' rows.flatten ∧ Below w.heap.size w w' := by
  by_cases h0 : n = 0
  · subst h0
    obtain rfl : rows = [] := List.eq_nil_of_length_eq_zero h.1
    refine (Any.bytes_Join_none joinLaid A c (.slice none 0 0) w).mono ?_
    rintro e w' ⟨rfl, rfl⟩
    exact ⟨_, _, _, rfl, Rd.nil, balloc _ _⟩
  · obtain ⟨b, off, A0, c0, rfl, hb, h1, h2⟩ := h.at_ (k := 0) (by omega)
    by_cases h1n : n = 1
    · subst h1n
      obtain ⟨r, rfl⟩ : ∃ r, rows = [r] := by
        have := h.1
        match rows, this with
        | [r], _ => exact ⟨r, rfl⟩
      simp only [List.getElem?_cons_zero, Option.getD_some, Nat.add_zero] at h1 h2
      simp only [List.flatten_cons, List.flatten_nil, List.append_nil] at hl ⊢
      by_cases hr : r.length = 0
      · rw [hr] at h1
        refine (Any.bytes_Join_one_empty joinLaid b off c A0 c0 (.slice none 0 0) w h1).mono ?_
        rintro e w' ⟨rfl, rfl⟩
        exact ⟨_, _, _, rfl, by rw [List.eq_nil_of_length_eq_zero hr]; exact Rd.nil, Below.refl _ _⟩
      · obtain ⟨b2, off2, rfl, _, _⟩ := h2.2 (by omega)
        refine (Any.bytes_Join_one joinLaid b off c ⟨b2, off2, none⟩ c0 r (.slice none 0 0) w h1 (h2.cells.2 _ rfl) (by omega) hl).mono ?_
        rintro e w' ⟨v', rfl, hf, hbl⟩
        obtain ⟨A', c', rfl, hr'⟩ := Rd.of_fresh hf
        exact ⟨_, _, _, rfl, hr', hbl⟩
    · obtain ⟨vs, hp⟩ := h.parts (by omega)
      refine (Any.bytes_Join_many joinLaid b off n c vs rows (.slice none 0 0) [] w h.1 (by omega) hp hc ⟨none, 0, rfl, fun _ => rfl, fun a ha => by cases ha⟩ h47 (by rw [lens_flat]; simpa using hl)).mono ?_
      rintro e w' ⟨v', rfl, hf, hbl⟩
      obtain ⟨A', c', rfl, hr'⟩ := Rd.of_fresh hf
      have e : Lib.join rows [] = rows.flatten := by
        unfold Lib.join
        rw [List.intercalate]
        clear hr' hf hp h1 h2 h hl hb
        induction rows with
        | nil => rfl
        | cons r rs ih =>
          cases rs with
          | nil => simp
          | cons r2 rs => simp at ih ⊢; exact ih
      exact ⟨_, _, _, rfl, by rw [e] at hr' ⊢; exact hr', hbl⟩
end Go.Proofs.Ytaidbcppecoenaa

