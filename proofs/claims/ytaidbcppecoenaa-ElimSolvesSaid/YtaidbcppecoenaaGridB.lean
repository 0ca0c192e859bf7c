import Derived.Test.YtaidbcppecoenaaGridA
/- grid.Of, grid.Unit, a grid's rows. -/
namespace Go.Proofs.Ytaidbcppecoenaa
open Go.RowKit
set_option linter.unusedVariables false
set_option maxRecDepth 100000

/-- Rows of one length, that fit. -/
def GridOk (w : Nat) (rows : List (List UInt8)) : Prop := lenB w rows = true ∧ w ≤ 65536 ∧ rows.length ≤ 65536 ∧ rows.length * w ≤ 65536
theorem flat_len {w : Nat} {rows : List (List UInt8)} (h : lenB w rows = true) : rows.flatten.length = rows.length * w := by
  induction rows with
  | nil => simp
  | cons r rs ih =>
    simp only [lenB, List.all_cons, Bool.and_eq_true, beq_iff_eq] at h
    have := ih (by simpa [lenB] using h.2)
    rw [List.flatten_cons, List.length_append, this, h.1, List.length_cons, Nat.succ_mul]
    omega
def gofR (z : Int) (rows : List (List UInt8)) : Value × Int :=
  if z < 0 ∨ 65536 < z then (gv 0 [], 2) else if fitB rows.length z.toNat = false then (gv 0 [], 5) else if lenB z.toNat rows = false then (gv 0 [], 4) else (gv z.toNat rows, 0)
theorem gof_any {B : Nat} {A : Option Addr} {n c : Nat} {z : Int} {rows : List (List UInt8)} {w : World} (h : Rds w B A n rows) (hB : B ≤ w.heap.size) (hc : n ≤ c) (hm : c ≤ 9223372036854775807) (z1 : -9223372036854775808 ≤ z) (z2 : z ≤ 9223372036854775807) :
    Calls Try.prog 49 #[.int .i64 z, .slice A n c] w (GridEnds (.tuple #[(gofR z rows).1, .int .i64 (gofR z rows).2]) w) := by
  obtain ⟨hb0, hx, hg⟩ := two_alloc (w := w) (T := 3) (T2 := 26) (cs := #[.int .i64 z]) (cs2 := #[.int .i64 0, .int .i64 0, .string { data := #[] }])
  have hx0 := hx.cell 0
  simp only [List.getElem?_toArray, List.getElem?_cons_zero] at hx0
  obtain ⟨hc0, hc1, hc2, hf0, hf1, hf2⟩ := cells3 hg
  have hlen := h.1
  by_cases c1 : z < 0
  · have e : gofR z rows = (gv 0 [], 2) := by simp [gofR, c1]
    rw [e]
    clear e hlen hc h
    go_enter Try.func49, Try.ntmps49
    go_wp2_with fail
    exact bodyPost_ret (v := .tuple #[gv 0 [], .int .i64 2]) (by simp [results, Try.results49, go_sem, hc0, hc1, hc2, gv_zero]) rfl ⟨rfl, hb0⟩
  · by_cases c2 : 65536 < z
    · have e : gofR z rows = (gv 0 [], 2) := by simp [gofR, c2]
      have c1' : 0 ≤ z := by omega
      rw [e]
      clear e hlen hc h
      go_enter Try.func49, Try.ntmps49
      go_wp2_with fail
      exact bodyPost_ret (v := .tuple #[gv 0 [], .int .i64 2]) (by simp [results, Try.results49, go_sem, hc0, hc1, hc2, gv_zero]) rfl ⟨rfl, hb0⟩
    · obtain ⟨k, rfl⟩ : ∃ k : Nat, z = (k : Int) := ⟨z.toNat, by omega⟩
      have k1 : (k : Int) ≤ 65536 := by omega
      have k2 : k ≤ 65536 := by omega
      have CF := fun W => fits_any n k (by omega) k2 W
      have q := (h.more hB).below hb0
      by_cases c3 : fitB rows.length k = false
      · have e : gofR (k : Int) rows = (gv 0 [], 5) := by unfold gofR; rw [if_neg (by omega), if_pos (by simpa using c3)]
        rw [hlen] at c3
        rw [e]
        rw [c3] at CF
        clear e hlen c3 c1 c2 h
        go_enter Try.func49, Try.ntmps49
        go_wp2_with fail
        refine (CF _).mono ?_
        rintro e w' ⟨rfl, rfl⟩
        clear CF
        go_wp2_with fail
        exact bodyPost_ret (v := .tuple #[gv 0 [], .int .i64 5]) (by simp [results, Try.results49, go_sem, hc0, hc1, hc2, gv_zero]) rfl ⟨rfl, hb0⟩
      · replace c3 : fitB rows.length k = true := by simpa using c3
        have CC := fun W B q => of_contains (w := W) (B := B) (c := c) (m := k) (L := w.heap.size) (q : Rds W B A n rows) 
        by_cases c4 : lenB k rows = false
        · have e : gofR (k : Int) rows = (gv 0 [], 4) := by unfold gofR; rw [if_neg (by omega), if_neg (by simpa using c3), if_pos (by simpa using c4)]
          rw [hlen] at c3
          rw [e]
          rw [c3] at CF
          rw [c4] at CC
          clear e hlen c3 c1 c2 h c4
          go_enter Try.func49, Try.ntmps49
          go_wp2_with fail
          refine (CF _).mono ?_
          rintro e w' ⟨rfl, rfl⟩
          clear CF
          go_wp2_with fail
          refine (CC _ _ q hx0 (by omega)).mono ?_
          rintro e w' ⟨rfl, rfl⟩
          clear CC
          go_wp2_with fail
          exact bodyPost_ret (v := .tuple #[gv 0 [], .int .i64 4]) (by simp [results, Try.results49, go_sem, hc0, hc1, hc2, gv_zero]) rfl ⟨rfl, hb0⟩
        · replace c4 : lenB k rows = true := by simpa using c4
          have e : gofR (k : Int) rows = (gv k rows, 0) := by unfold gofR; rw [if_neg (by omega), if_neg (by simpa using c3), if_neg (by simpa using c4)]; rfl
          have hfl : rows.flatten.length ≤ 140737488355328 := by
            rw [flat_len c4]
            simp [fitB] at c3
            omega
          have h47 : n ≤ 140737488355328 := by
            simp [fitB, hlen] at c3
            omega
          rw [hlen] at c3
          rw [e]
          rw [c3] at CF
          rw [c4] at CC
          have Hn := Lib.hid hlen
          clear e hlen c3 c1 c2 h c4
          go_enter Try.func49, Try.ntmps49
          go_wp2_with fail
          refine (CF _).mono ?_
          rintro e w' ⟨rfl, rfl⟩
          clear CF
          go_wp2_with fail
          refine (CC _ _ q hx0 (by omega)).mono ?_
          rintro e w' ⟨rfl, rfl⟩
          clear CC
          go_wp2_with fail
          refine (joined_any q (by simp; omega) hc h47 hfl).mono ?_
          rintro e w1 ⟨rfl, b1⟩
          replace hg := hg.below b1 (by simp)
          replace hb0 := bstep hb0 b1
          clear hx hx0 q b1 hc0 hc1 hc2 hf0 hf1 hf2
          obtain ⟨hc0, hc1, hc2, hf0, hf1, hf2⟩ := cells3 hg
          simp only [gv]
          go_wp2_with fail
          refine end_grid (v := .tuple #[gv k rows, .int .i64 0]) hg (by intro W e0 e1 e2; simp [results, Try.results49, go_sem, e0, e1, e2, gv]) rfl fun W hl => ?_
          exact ⟨rfl, hl.below _ _ (by omega) hb0⟩
end Go.Proofs.Ytaidbcppecoenaa

