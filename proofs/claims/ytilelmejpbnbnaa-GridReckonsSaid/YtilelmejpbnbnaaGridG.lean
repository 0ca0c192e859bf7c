import Derived.Test.YtilelmejpbnbnaaGridF
/- A grid's rows in memory; the document's own Of and Same; which rows are few. -/
namespace Go.Proofs.Ytilelmejpbnbnaa
open Go.RowKit
set_option linter.unusedVariables false
set_option maxRecDepth 100000

theorem ret_bool {a b : Bool} (h : a = b) : Ending.returned (.bool a) = .returned (.bool b) := by rw [h]
theorem take_get {α : Type} {l : List α} {k : Nat} (d : α) (h : k < l.length) : l.take k ++ [l[k]?.getD d] = l.take (k + 1) := by
  rw [List.take_succ_eq_append_getElem h, List.getElem?_eq_getElem h]; rfl
/-- Rows that are answered: a slice that reads as they do. -/
def RowsEnd (rows : List (List UInt8)) (w : World) (e : Ending) (w' : World) : Prop := ∃ A n c, e = .returned (.slice A n c) ∧ n ≤ c ∧ c ≤ 140737488355327 ∧ Rds w' w'.heap.size A n rows ∧ Below w.heap.size w w'
theorem grows_fill {n : Nat} {rows : List (List UInt8)} {w : World} (h : GridOk n rows) : Calls Try.prog 15 #[gv n rows] w fun e w' => ∃ g m, e = .returned (.slice (some ⟨g, 0, none⟩) m m) ∧ rows.length = m ∧ Filled w' g m rows ∧ w.heap.size ≤ g ∧ Below w.heap.size w w' := by
  have hb0 := balloc w (.cells #[.int .i64 (rows.length : Int), .int .i64 (n : Int), .string (strB rows.flatten)] 26)
  have hg := Blk.new w 26 #[.int .i64 (rows.length : Int), .int .i64 (n : Int), .string (strB rows.flatten)]
  have hr : rows.length ≤ 65536 := h.2.2.1
  obtain ⟨H, hH⟩ : ∃ H, rows.length = H := ⟨_, rfl⟩
  have HL := Lib.hid hH
  rw [hH] at hg hb0 hr
  have hmk := make_rows H (by omega) (w.alloc (.cells #[.int .i64 (H : Int), .int .i64 (n : Int), .string (strB rows.flatten)] 26))
  have hF := Filled.new (w.alloc (.cells #[.int .i64 (H : Int), .int .i64 (n : Int), .string (strB rows.flatten)] 26)) H
  have hb1 := bstep hb0 (balloc _ (.cells (nils H).toArray 52))
  have hg1 := hg.alloc (.cells (nils H).toArray 52)
  rw [World.size_alloc] at hF
  obtain ⟨hc0, hc1, hc2, hf0, hf1, hf2⟩ := cells3 hg
  have Hok := Lib.hid h
  have hgv : gv n rows = .agg #[.int .i64 (H : Int), .int .i64 (n : Int), .string (strB rows.flatten)] := by rw [gv, hH]
  rw [hgv]
  clear h hH
  go_enter Try.func15, Try.ntmps15
  go_wp2_with fail
  clear hc0 hc1 hc2 hf0 hf1 hf2 hmk hb0 hg
  go_loopw [10] (fun i wr => ∃ k : Nat, k ≤ H ∧ i = .int .i64 k ∧ Filled wr (w.heap.size + 1) H (rows.take k) ∧ Blk wr w.heap.size 26 #[.int .i64 (H : Int), .int .i64 (n : Int), .string (strB rows.flatten)] ∧ Below w.heap.size w wr) (fun i _ => H - (intOf i).toNat)
  case atStart => exact ⟨0, by omega, rfl, hF, hg1, hb1⟩
  case round =>
    clear hF hg1 hb1
    obtain ⟨k, hk, rfl, hF, hg, hb⟩ := hrel
    by_cases hlt : k < H
    · obtain ⟨hc0, hc1, hc2, hf0, hf1, hf2⟩ := cells3 hg
      have C := grow_any n k rows wr Hok.out (by rw [HL.out]; exact hlt)
      have Hu : Hid ((rows[k]?.getD []).length = n) := Lib.hid (lenB_get Hok.out.1 (by rw [HL.out]; exact hlt))
      have Ht : Hid (rows.take k ++ [rows[k]?.getD []] = rows.take (k + 1)) := Lib.hid (take_get [] (by rw [HL.out]; exact hlt))
      have Hk : Hid ((rows.take k).length = k) := Lib.hid (by rw [List.length_take, HL.out]; omega)
      rw [hgv] at C
      go_wp2_with fail
      refine C.mono ?_
      rintro e w1 ⟨A1, c1, rfl, r1, b1⟩
      replace hF := hF.step b1
      replace hg := hg.below b1 hg.lt
      replace hb := bstep hb b1
      clear C b1 hc0 hc1 hc2 hf0 hf1 hf2
      obtain ⟨⟨A, m, c, hcell⟩, hfz⟩ := hF.cell hlt
      have HP := Lib.hid (hF.put (c := c1) Hk.out hlt Hu.out r1)
      rw [Ht.out] at HP
      have HG := Lib.hid (hg.far (p := (⟨w.heap.size + 1, k, none⟩ : Addr)) (by simp) (.slice A1 n c1))
      have HB := Lib.hid (hb.setCell (p := (⟨w.heap.size + 1, k, none⟩ : Addr)) (by simp) (.slice A1 n c1))
      clear r1 hF hg hb
      go_wp2_with fail
      go_roundw
      case rel => exact ⟨k + 1, by omega, by go_num, HP.out, HG.out, HB.out⟩
      case measure => simp [intOf]; omega
    · obtain rfl : k = H := by omega
      have hl : rows.take k = rows := List.take_of_length_le (by rw [HL.out]; exact Nat.le_refl _)
      rw [hl] at hF
      clear hl hlt
      go_wp2_with fail
      go_ret
      exact ⟨_, _, rfl, HL.out, hF, by omega, hb⟩

theorem grows_any {n : Nat} {rows : List (List UInt8)} {w : World} (h : GridOk n rows) : Calls Try.prog 15 #[gv n rows] w (RowsEnd rows w) :=
  (grows_fill h).mono fun e w' ⟨g, m, he, hm, hF, _, hb⟩ => by
    have h6 := h.2.2.1
    exact ⟨_, _, _, he, Nat.le_refl _, by omega, hF.rds hm, hb⟩

/-! ### The document's Of -/
/-! ### The document's Same -/
def sameRows (a b : List (List UInt8)) : Bool := decide (a = b)
theorem same_of_prefix {a b : List (List UInt8)} {n : Nat} (ha : a.length = n) (hb : b.length = n) (h : a.take n = b.take n) : sameRows a b = true := by
  rw [List.take_of_length_le (by omega), List.take_of_length_le (by omega)] at h
  simp [sameRows, h]
theorem differ {a b : List (List UInt8)} {k : Nat} (h : (a[k]?.getD [] == b[k]?.getD []) = false) : sameRows a b = false := by
  unfold sameRows
  rw [decide_eq_false_iff_not]
  rintro rfl
  simp at h
theorem refsame7_any {B B2 : Nat} {A A2 : Option Addr} {n c n2 c2 : Nat} {rows rows2 : List (List UInt8)} {w : World} (h : Rds w B A n rows) (h2 : Rds w B2 A2 n2 rows2) (hB : B ≤ w.heap.size) (hB2 : B2 ≤ w.heap.size) (hn : n ≤ 9223372036854775807) (hs : Short rows) :
    Calls Try.prog 13 #[.slice A n c, .slice A2 n2 c2] w fun e w' => e = .returned (.bool (sameRows rows rows2)) ∧ Below w.heap.size w w' := by
  by_cases hl : n = n2
  · subst hl
    have H1 := Lib.hid h.1
    have H2 := Lib.hid h2.1
    replace h := h.more hB
    replace h2 := h2.more hB2
    go_enter Try.func13, Try.ntmps13
    go_wp2_with fail
    go_loopw [13] (fun i wr => ∃ k : Nat, k ≤ n ∧ i = .int .i64 k ∧ Hid (rows.take k = rows2.take k) ∧ Below w.heap.size w wr) (fun i _ => n - (intOf i).toNat)
    case atStart => exact ⟨0, by omega, rfl, Lib.hid rfl, Below.refl _ _⟩
    case round =>
      obtain ⟨k, hk, rfl, hp, hb⟩ := hrel
      by_cases hlt : k < n
      · obtain ⟨b, off, Ak, ck, rfl, hbB, hc, hr⟩ := (h.below hb).at_ hlt
        obtain ⟨b2, off2, Ak2, ck2, rfl, hbB2, hc2, hr2⟩ := (h2.below hb).at_ hlt
        have Hs1 : Hid (rows.take (k + 1) = rows.take k ++ [rows[k]?.getD []]) := Lib.hid (take_get [] (by rw [H1.out]; exact hlt)).symm
        have Hs2 : Hid (rows2.take (k + 1) = rows2.take k ++ [rows2[k]?.getD []]) := Lib.hid (take_get [] (by rw [H2.out]; exact hlt)).symm
        have hsh : (rows[k]?.getD []).length ≤ 140737488355327 := by
          rw [List.getElem?_eq_getElem (by rw [H1.out]; exact hlt)]
          exact hs _ (List.getElem_mem _)
        have HD : (rows[k]?.getD [] == rows2[k]?.getD []) = false → Hid (sameRows rows rows2 = false) := fun h => Lib.hid (differ h)
        generalize rows[k]?.getD [] = us at *
        generalize rows2[k]?.getD [] = vs at *
        have hz := hb.size
        have hS : Hid (∀ w', Below wr.heap.size wr w' → (Below wr.heap.size wr w' ∧ w'.cell? ⟨b, off + k, none⟩ = some (.slice Ak us.length ck) ∧ w'.cell? ⟨b2, off2 + k, none⟩ = some (.slice Ak2 vs.length ck2))) := Lib.hid fun w' hb' => ⟨hb', (hb'.cell (p := ⟨b, off + k, none⟩) (by simp; omega)).trans hc, (hb'.cell (p := ⟨b2, off2 + k, none⟩) (by simp; omega)).trans hc2⟩
        replace hr := hr.more hz
        replace hr2 := hr2.more hz
        have hlen : us.length ≤ 9223372036854775807 := by omega
        cases hq : (us == vs)
        · have HF := HD hq
          have Hq := Lib.hid hq
          clear HD hq hsh
          go_wp2_with fail
          go_region_held3 (fun w' => Below wr.heap.size wr w' ∧ w'.cell? ⟨b, off + k, none⟩ = some (.slice Ak us.length ck) ∧ w'.cell? ⟨b2, off2 + k, none⟩ = some (.slice Ak2 vs.length ck2))
            ((refine hS.out _ ?_; first | exact (Below.refl _ _).drew | assumption))
            ((go_at_call 45; (with_reducible refine (same_any (hr.step (And.left ‹Below wr.heap.size wr _ ∧ _›)) (hr2.step (And.left ‹Below wr.heap.size wr _ ∧ _›)) (Nat.le_refl _) (Nat.le_refl _) hlen).mono ?_); rintro e w7 ⟨rfl, b7⟩; have kB7 := bstep (And.left ‹Below wr.heap.size wr _ ∧ _›) b7; rw [Hq.out]))
          go_wp2_with fail
          go_ret
          exact ⟨ret_bool HF.out.symm, bstep hb kB7⟩
        · have HF : Hid (rows.take (k + 1) = rows2.take (k + 1)) := Lib.hid (by rw [Hs1.out, Hs2.out, hp.out, eq_of_beq hq])
          have Hq := Lib.hid hq
          clear HD hq hsh
          go_wp2_with fail
          go_region_held3 (fun w' => Below wr.heap.size wr w' ∧ w'.cell? ⟨b, off + k, none⟩ = some (.slice Ak us.length ck) ∧ w'.cell? ⟨b2, off2 + k, none⟩ = some (.slice Ak2 vs.length ck2))
            ((refine hS.out _ ?_; first | exact (Below.refl _ _).drew | assumption))
            ((go_at_call 45; (with_reducible refine (same_any (hr.step (And.left ‹Below wr.heap.size wr _ ∧ _›)) (hr2.step (And.left ‹Below wr.heap.size wr _ ∧ _›)) (Nat.le_refl _) (Nat.le_refl _) hlen).mono ?_); rintro e w7 ⟨rfl, b7⟩; have kB7 := bstep (And.left ‹Below wr.heap.size wr _ ∧ _›) b7; rw [Hq.out]))
          go_wp2_with fail
          go_roundw
          case rel => exact ⟨k + 1, by omega, by go_num, HF, bstep hb kB7⟩
          case measure => simp [intOf]; omega
      · obtain rfl : k = n := by omega
        have HF := Lib.hid (same_of_prefix H1.out H2.out hp.out)
        go_wp2_with fail
        go_ret
        exact ⟨ret_bool HF.out.symm, hb⟩
  · have e : sameRows rows rows2 = false := by
      unfold sameRows
      rw [decide_eq_false_iff_not]
      rintro rfl
      exact hl (h.1.symm.trans h2.1)
    have t : ((n : Int) != (n2 : Int)) = true := by rw [bne_iff_ne]; omega
    rw [e]
    clear e
    go_enter Try.func13, Try.ntmps13
    go_wp2_with fail
    go_ret
    exact ⟨rfl, Below.refl _ _⟩

/-! ### Few -/
def few7B (rows : List (List UInt8)) : Bool := rows.all (fun r => decide (r.length ≤ 30)) && decide (rows.length ≤ 30)
theorem few7_any {B : Nat} {A : Option Addr} {n c : Nat} {rows : List (List UInt8)} {w : World} (h : Rds w B A n rows) (hn : n ≤ 9223372036854775807) :
    Calls Try.prog 9 #[.slice A n c] w fun e w' => e = .returned (.bool (few7B rows)) ∧ w = w' := by
  have H1 := Lib.hid h.1
  go_enter Try.func9, Try.ntmps9
  go_wp2_with fail
  go_loop [7] (fun i => ∃ j : Nat, j ≤ n ∧ i = .int .i64 j ∧ Hid ((rows.take j).all (fun r => decide (r.length ≤ 30)) = true)) (fun i => n - (intOf i).toNat)
  case atStart => exact ⟨0, by omega, rfl, Lib.hid rfl⟩
  case round =>
    obtain ⟨j, hj, rfl, hp⟩ := hrel
    by_cases hlt : j < n
    · obtain ⟨b, off, Ak, ck, rfl, _, hc, _⟩ := h.at_ hlt
      by_cases he : 30 < (rows[j]?.getD []).length
      · have Hf : Hid (few7B rows = false) := Lib.hid (by
          unfold few7B
          rw [Bool.and_eq_false_iff]; left
          rw [List.all_eq_false]
          have hjl : j < rows.length := by rw [H1.out]; exact hlt
          refine ⟨rows[j], List.getElem_mem hjl, ?_⟩
          rw [List.getElem?_eq_getElem hjl] at he
          simp at he ⊢; omega)
        go_wp2_with fail
        go_ret
        exact ⟨ret_bool Hf.out.symm, rfl⟩
      · have he2 : (rows[j]?.getD []).length ≤ 30 := by omega
        have Hp : Hid ((rows.take (j + 1)).all (fun r => decide (r.length ≤ 30)) = true) := Lib.hid (by
          rw [← take_get [] (by rw [H1.out]; exact hlt), List.all_append, hp.out]; simp [he2])
        clear he
        go_wp2_with fail
        go_round
        case rel => exact ⟨j + 1, by omega, by go_num, Hp⟩
        case measure => simp [intOf]; omega
    · obtain rfl : j = n := by omega
      by_cases h30 : j ≤ 30
      · have Hf : Hid (few7B rows = true) := Lib.hid (by
          have := hp.out
          rw [List.take_of_length_le (by rw [H1.out]; exact Nat.le_refl _)] at this
          unfold few7B; rw [this, H1.out]; simp [h30])
        go_wp2_with fail
        go_ret
        exact ⟨ret_bool (by rw [Hf.out]; simp; omega), rfl⟩
      · have Hf : Hid (few7B rows = false) := Lib.hid (by
          unfold few7B; rw [H1.out]; simp [h30])
        have h31 : 30 < j := by omega
        clear h30
        go_wp2_with fail
        go_ret
        exact ⟨ret_bool (by rw [Hf.out]; simp; omega), rfl⟩
end Go.Proofs.Ytilelmejpbnbnaa
