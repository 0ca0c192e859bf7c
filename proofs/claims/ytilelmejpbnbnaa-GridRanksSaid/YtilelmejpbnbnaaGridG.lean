import Derived.Test.YtilelmejpbnbnaaGridF
/- A grid's rows in memory; the document's own Of and Same; which rows are few. -/
namespace Go.Proofs.Ytilelmejpbnbnaa
open Go.RowKit
set_option linter.unusedVariables false
set_option maxRecDepth 100000

theorem ret_bool {a b : Bool} (h : a = b) : Ending.returned (.bool a) = .returned (.bool b) := by rw [h]
theorem take_get {α : Type} {l : List α} {k : Nat} (d : α) (h : k < l.length) : l.take k ++ [l[k]?.getD d] = l.take (k + 1) := by
  rw [List.take_succ_eq_append_getElem h, List.getElem?_eq_getElem h]; rfl
theorem grows_fill {n : Nat} {rows : List (List UInt8)} {w : World} (h : GridOk n rows) : Calls Try.prog 15 #[gv n rows] w fun e w' => ∃ g m, e = .returned (.slice (some ⟨g, 0, none⟩) m m) ∧ rows.length = m ∧ Filled w' g m rows ∧ w.heap.size ≤ g ∧ Below w.heap.size w w' := by
  have hb0 := balloc w (.cells #[.int .i64 (rows.length : Int), .int .i64 (n : Int), .string (strB rows.flatten)] 26)
  have hg := Blk.new w 26 #[.int .i64 (rows.length : Int), .int .i64 (n : Int), .string (strB rows.flatten)]
  have hr : rows.length ≤ 65536 := h.2.2.1
  obtain ⟨H, hH⟩ : ∃ H, rows.length = H := ⟨_, rfl⟩
  have HL := Lib.hid hH
  rw [hH] at hg hb0 hr
  have hmk := make_rows H (by omega) (w.alloc (.cells #[.int .i64 (H : Int), .int .i64 (n : Int), .string (strB rows.flatten)] 26))
  have hF := Filled.new (w.alloc (.cells #[.int .i64 (H : Int), .int .i64 (n : Int), .string (strB rows.flatten)] 26)) H
  have hb1 := bstep hb0 (balloc _ (.cells (nils H).toArray 52))
  have hg1 := hg.alloc (.cells (nils H).toArray 52)
  rw [World.size_alloc] at hF
  obtain ⟨hc0, hc1, hc2, hf0, hf1, hf2⟩ := cells3 hg
  have Hok := Lib.hid h
  have hgv : gv n rows = .agg #[.int .i64 (H : Int), .int .i64 (n : Int), .string (strB rows.flatten)] := by rw [gv, hH]
  rw [hgv]
  clear h hH
  go_enter Try.func15, Try.ntmps15
  go_wp2_with fail
  clear hc0 hc1 hc2 hf0 hf1 hf2 hmk hb0 hg
  go_loopw [10] (fun i wr => ∃ k : Nat, k ≤ H ∧ i = .int .i64 k ∧ Filled wr (w.heap.size + 1) H (rows.take k) ∧ Blk wr w.heap.size 26 #[.int .i64 (H : Int), .int .i64 (n : Int), .string (strB rows.flatten)] ∧ Below w.heap.size w wr) (fun i _ => H - (intOf i).toNat)
  case atStart => exact ⟨0, by omega, rfl, hF, hg1, hb1⟩
  case round =>
    clear hF hg1 hb1
    obtain ⟨k, hk, rfl, hF, hg, hb⟩ := hrel
    by_cases hlt : k < H
    · obtain ⟨hc0, hc1, hc2, hf0, hf1, hf2⟩ := cells3 hg
      have C := grow_any n k rows wr Hok.out (by rw [HL.out]; exact hlt)
      have Hu : Hid ((rows[k]?.getD []).length = n) := Lib.hid (lenB_get Hok.out.1 (by rw [HL.out]; exact hlt))
      have Ht : Hid (rows.take k ++ [rows[k]?.getD []] = rows.take (k + 1)) := Lib.hid (take_get [] (by rw [HL.out]; exact hlt))
      have Hk : Hid ((rows.take k).length = k) := Lib.hid (by rw [List.length_take, HL.out]; omega)
      rw [hgv] at C
      go_wp2_with fail
      refine C.mono ?_
      rintro e w1 ⟨A1, c1, rfl, r1, b1⟩
      replace hF := hF.step b1
      replace hg := hg.below b1 hg.lt
      replace hb := bstep hb b1
      clear C b1 hc0 hc1 hc2 hf0 hf1 hf2
      obtain ⟨⟨A, m, c, hcell⟩, hfz⟩ := hF.cell hlt
      have HP := Lib.hid (hF.put (c := c1) Hk.out hlt Hu.out r1)
      rw [Ht.out] at HP
      have HG := Lib.hid (hg.far (p := (⟨w.heap.size + 1, k, none⟩ : Addr)) (by simp) (.slice A1 n c1))
      have HB := Lib.hid (hb.setCell (p := (⟨w.heap.size + 1, k, none⟩ : Addr)) (by simp) (.slice A1 n c1))
      clear r1 hF hg hb
      go_wp2_with fail
      go_roundw
      case rel => exact ⟨k + 1, by omega, by go_num, HP.out, HG.out, HB.out⟩
      case measure => simp [intOf]; omega
    · obtain rfl : k = H := by omega
      have hl : rows.take k = rows := List.take_of_length_le (by rw [HL.out]; exact Nat.le_refl _)
      rw [hl] at hF
      clear hl hlt
      go_wp2_with fail
      go_ret
      exact ⟨_, _, rfl, HL.out, hF, by omega, hb⟩

/-! ### The document's Of -/
/-! ### The document's Same -/
/-! ### Few -/
def few7B (rows : List (List UInt8)) : Bool := rows.all (fun r => decide (r.length ≤ 30)) && decide (rows.length ≤ 30)
theorem few7_any {B : Nat} {A : Option Addr} {n c : Nat} {rows : List (List UInt8)} {w : World} (h : Rds w B A n rows) (hn : n ≤ 9223372036854775807) :
    Calls Try.prog 9 #[.slice A n c] w fun e w' => e = .returned (.bool (few7B rows)) ∧ w = w' := by
  have H1 := Lib.hid h.1
  go_enter Try.func9, Try.ntmps9
  go_wp2_with fail
  go_loop [7] (fun i => ∃ j : Nat, j ≤ n ∧ i = .int .i64 j ∧ Hid ((rows.take j).all (fun r => decide (r.length ≤ 30)) = true)) (fun i => n - (intOf i).toNat)
  case atStart => exact ⟨0, by omega, rfl, Lib.hid rfl⟩
  case round =>
    obtain ⟨j, hj, rfl, hp⟩ := hrel
    by_cases hlt : j < n
    · obtain ⟨b, off, Ak, ck, rfl, _, hc, _⟩ := h.at_ hlt
      by_cases he : 30 < (rows[j]?.getD []).length
      · have Hf : Hid (few7B rows = false) := Lib.hid (by
          unfold few7B
          rw [Bool.and_eq_false_iff]; left
          rw [List.all_eq_false]
          have hjl : j < rows.length := by rw [H1.out]; exact hlt
          refine ⟨rows[j], List.getElem_mem hjl, ?_⟩
          rw [List.getElem?_eq_getElem hjl] at he
          simp at he ⊢; omega)
        go_wp2_with fail
        go_ret
        exact ⟨ret_bool Hf.out.symm, rfl⟩
      · have he2 : (rows[j]?.getD []).length ≤ 30 := by omega
        have Hp : Hid ((rows.take (j + 1)).all (fun r => decide (r.length ≤ 30)) = true) := Lib.hid (by
          rw [← take_get [] (by rw [H1.out]; exact hlt), List.all_append, hp.out]; simp [he2])
        clear he
        go_wp2_with fail
        go_round
        case rel => exact ⟨j + 1, by omega, by go_num, Hp⟩
        case measure => simp [intOf]; omega
    · obtain rfl : j = n := by omega
      by_cases h30 : j ≤ 30
      · have Hf : Hid (few7B rows = true) := Lib.hid (by
          have := hp.out
          rw [List.take_of_length_le (by rw [H1.out]; exact Nat.le_refl _)] at this
          unfold few7B; rw [this, H1.out]; simp [h30])
        go_wp2_with fail
        go_ret
        exact ⟨ret_bool (by rw [Hf.out]; simp; omega), rfl⟩
      · have Hf : Hid (few7B rows = false) := Lib.hid (by
          unfold few7B; rw [H1.out]; simp [h30])
        have h31 : 30 < j := by omega
        clear h30
        go_wp2_with fail
        go_ret
        exact ⟨ret_bool (by rw [Hf.out]; simp; omega), rfl⟩
end Go.Proofs.Ytilelmejpbnbnaa
