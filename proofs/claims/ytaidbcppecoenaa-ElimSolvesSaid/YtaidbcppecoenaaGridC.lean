import Derived.Test.YtaidbcppecoenaaGridB
import Derived.Laws.IdiomStrings
import Derived.IntWalk
/- Rows made one by one; grid.Unit; a grid's rows. -/
namespace Go.Proofs.Ytaidbcppecoenaa
open Go.RowKit
set_option linter.unusedVariables false
set_option maxRecDepth 100000

/-! ### Rows made one by one -/
/-! ### Unit -/
/-! ### A grid's rows -/
theorem strB_extract (us : List UInt8) (p q : Nat) : (strB us).extract p q = strB ((us.drop p).take (q - p)) := by
  apply ByteArray.ext
  simp [strB, List.extract_eq_take_drop]
theorem bytes_str {us : List UInt8} (w : World) : ∃ c w', us.length ≤ c ∧ (convert 9 52 (.string (strB us))).run Try.prog w = .ok (.slice (some ⟨w.heap.size, 0, none⟩) us.length c) w' ∧ w'.heap.size = w.heap.size + 1 ∧ Rd w' w'.heap.size (some ⟨w.heap.size, 0, none⟩) us.length us ∧ Below w.heap.size w w' := by
  have h := run_bytes_of_string (P := Try.prog) w 9 52 5 (strB us) Try.underlying9 Try.underlying52 Try.underlying5
  have hs : (strB us).size = us.length := by simp [strB, ByteArray.size]
  have hc : us.length ≤ grownCap w (strB us).size 0 5 := by rw [← hs]; exact grownCap_ge _ _ _ _
  rw [hs] at h hc
  generalize grownCap w us.length 0 5 = c at *
  refine ⟨c, _, hc, h, by simp, ⟨rfl, fun hp => ⟨w.heap.size, 0, rfl, by simp, fun i u hu => ?_⟩⟩, (Below.refl _ _).drew.alloc (Nat.le_refl _) _⟩
  have hi := (List.getElem?_eq_some_iff.1 hu).1
  have hnew := heap_alloc_new w.drew (.cells (bytesRow (strB us) c) 5 ((bytesRow (strB us) c).size, (bytesRow (strB us) c).size + 1))
  rw [cell_of_row _ w.heap.size (0 + i) _ _ _ hnew, Nat.zero_add]
  unfold bytesRow
  rw [Array.getElem?_append_left (by simpa [strB] using hi)]
  simp [strB, hu, bv]
theorem flat_row {k i : Nat} {rows : List (List UInt8)} (h : lenB k rows = true) (hi : i < rows.length) : (rows.flatten.drop (i * k)).take k = rows[i]?.getD [] := by
  induction rows generalizing i with
  | nil => simp at hi
  | cons r rs ih =>
    simp only [lenB, List.all_cons, Bool.and_eq_true, beq_iff_eq] at h
    rw [List.flatten_cons]
    cases i with
    | zero =>
      rw [Nat.zero_mul, List.drop_zero, List.take_append_of_le_length (by omega), List.take_of_length_le (by omega)]
      simp
    | succ i =>
      rw [show (i + 1) * k = r.length + i * k by rw [Nat.succ_mul, h.1]; omega, ← List.drop_drop, List.drop_left]
      simpa using ih (by simpa [lenB] using h.2) (by simpa using hi)
theorem wrap_small {p : Nat} (h : p ≤ 65536) : wrap64 (p : Int) = (p : Int) := IntWalk.wrap64_in _ ⟨by omega, by omega⟩
theorem wrap_mul {i k p : Nat} (hp : i * k = p) (h : p ≤ 65536) : wrap64 ((i : Int) * (k : Int)) = (p : Int) := by
  rw [← Int.natCast_mul, hp]; exact wrap_small h
theorem wrap_mul1 {i k q : Nat} (hq : (i + 1) * k = q) (h : q ≤ 65536) : wrap64 (((i : Int) + 1) * (k : Int)) = (q : Int) := by
  rw [show ((i : Int) + 1) = ((i + 1 : Nat) : Int) by simp, ← Int.natCast_mul, hq]; exact wrap_small h
theorem grow_any (k i : Nat) (rows : List (List UInt8)) (w : World) (h : GridOk k rows) (hi : i < rows.length) :
    Calls Try.prog 53 #[gv k rows, .int .i64 (i : Int)] w fun e w' => ∃ A c, e = .returned (.slice A k c) ∧ Rd w' w'.heap.size A k (rows[i]?.getD []) ∧ Below w.heap.size w w' := by
  have h1 := h.2.2.1
  have hfl := flat_len h.1
  have hle : (i + 1) * k ≤ rows.length * k := Nat.mul_le_mul_right _ hi
  have hcap := h.2.2.2
  have hrow := flat_row h.1 hi
  have hex : (strB rows.flatten).extract (i * k) ((i + 1) * k) = strB (rows[i]?.getD []) := by
    rw [strB_extract, Nat.succ_mul, show i * k + k - i * k = k by omega, hrow]
  have hsz : (strB rows.flatten).size = rows.length * k := by rw [← hfl]; simp [strB, ByteArray.size]
  have hrl : (rows[i]?.getD []).length = k := by rw [← hrow, List.length_take, List.length_drop, hfl]; rw [Nat.succ_mul] at hle; omega
  obtain ⟨p, hp⟩ : ∃ p, i * k = p := ⟨_, rfl⟩
  obtain ⟨q, hq⟩ : ∃ q, (i + 1) * k = q := ⟨_, rfl⟩
  have hpq : p ≤ q := by rw [← hp, ← hq, Nat.succ_mul]; omega
  rw [hp, hq] at hex
  rw [hq] at hle
  have hq6 : (q : Int) ≤ 65536 := by omega
  have hp6 : (p : Int) ≤ 65536 := by omega
  have hi6 : (i : Int) ≤ 65536 := by omega
  have t1 : (q : Int) ≤ ((strB rows.flatten).size : Int) := by rw [hsz]; omega
  have t2 : (p : Int) ≤ (q : Int) := by omega
  have p6 : p ≤ 65536 := by omega
  have q6 : q ≤ 65536 := by omega
  have w1 := wrap_mul hp p6
  have w2 := wrap_mul1 hq q6
  clear p6 q6
  obtain ⟨c, W, hcl, hcv, hws, hr, hb⟩ := bytes_str (us := rows[i]?.getD []) (w.alloc (.cells #[.int .i64 (rows.length : Int), .int .i64 (k : Int), .string (strB rows.flatten)] 26))
  rw [hrl] at hr hcv
  rw [← hex] at hcv
  have hb' := bstep (balloc w _) hb
  clear hex hsz hle hcap hrow hrl hfl hp hq h1 h hpq hb hws hcl
  simp only [gv]
  go_enter Try.func53, Try.ntmps53
  go_wp2_with fail
  go_ret
  exact ⟨_, _, rfl, by simpa using hr, hb'⟩
end Go.Proofs.Ytaidbcppecoenaa

