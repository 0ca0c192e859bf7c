import Derived.Test.YtaidbcppecoenaaVecB
import Derived.Test.YtaidbcppecoenaaFill
import Derived.Test.YtaidbcppecoenaaJoin
import Derived.Lib.Small
/- What package grid's small functions come to, and the library's searches that they call. -/
namespace Go.Proofs.Ytaidbcppecoenaa
open Go.RowKit
set_option linter.unusedVariables false
set_option maxRecDepth 100000

/-! ### fits -/
def fitB (h w : Nat) : Bool := decide (h ≤ 65536 ∧ h * w ≤ 65536)
theorem fits_any (h w : Nat) (hh : h ≤ 9223372036854775807) (hw : w ≤ 65536) (W : World) :
    Calls Try.prog 54 #[.int .i64 h, .int .i64 w] W fun e w' => e = .returned (.bool (fitB h w)) ∧ W = w' := by
  have HW : (w : Int) ≤ 65536 := by omega
  have HH : (h : Int) ≤ 9223372036854775807 := by omega
  by_cases c1 : h ≤ 65536
  · have t1 : decide ((h : Int) ≤ 65536) = true := by simp; omega
    by_cases c2 : w = 0
    · subst c2
      have e : fitB h 0 = true := by simp [fitB, c1]
      rw [e]
      clear e c1 hh
      go_enter Try.func54, Try.ntmps54
      go_wp2_with fail
      go_ret
      exact ⟨rfl, rfl⟩
    · have t2 : ((w : Int) == 0) = false := by simp; omega
      have t3 : ((65536 : Int) / (w : Int)) = ((65536 / w : Nat) : Int) := by simp
      have e : decide ((h : Int) ≤ 65536 / (w : Int)) = fitB h w := by
        rw [t3]
        simp only [fitB, Int.ofNat_le, c1, true_and]
        rw [decide_eq_decide]
        exact Nat.le_div_iff_mul_le (by omega)
      have E := Lib.hid e
      have p0 : 0 < (w : Int) := by omega
      clear e t3 c1 c2 hh
      go_enter Try.func54, Try.ntmps54
      go_wp2_with fail
      go_ret
      exact ⟨(congrArg (fun b => Ending.returned (Value.bool b)) E.out), rfl⟩
  · have t1 : decide ((h : Int) ≤ 65536) = false := by simp; omega
    have e : fitB h w = false := by simp [fitB, c1]
    rw [e]
    clear e c1 hh
    go_enter Try.func54, Try.ntmps54
    go_wp2_with fail
    go_ret
    exact ⟨rfl, rfl⟩

/-! ### A row of another length -/
theorem of_fn {A : Option Addr} {n c m L : Nat} {w : World} (hL : w.cell? ⟨L, 0, none⟩ = some (.int .i64 (m : Int))) :
    Calls Try.prog 74 #[.slice A n c, .pointer (some ⟨L, 0, none⟩)] w fun e w' => e = .returned (.bool ((n : Int) != (m : Int))) ∧ w = w' := by
  go_enter Try.func74, Try.ntmps74
  go_wp2
  go_ret
  exact ⟨rfl, rfl⟩
theorem of_index {B : Nat} {A : Option Addr} {n c m L : Nat} {rows : List (List UInt8)} {w : World} (h : Rds w B A n rows) (hL : w.cell? ⟨L, 0, none⟩ = some (.int .i64 (m : Int))) (hn : n ≤ 9223372036854775807) :
    Calls Try.prog 93 #[.slice A n c, .func (.func 74) #[] #[.pointer (some ⟨L, 0, none⟩)]] w fun e w' => ∃ i : Int, e = .returned (.int .i64 i) ∧ decide (0 ≤ i) = !lenB m rows ∧ w = w' := by
  have Hl := Lib.hid h.1
  go_enter Try.func93, Try.ntmps93
  go_wp2
  go_loop [8] (fun i => ∃ k : Nat, k ≤ n ∧ i = .int .i64 k ∧ Hid (prefixLen m rows k)) (fun i => n - (intOf i).toNat)
  case atStart => exact ⟨0, by omega, rfl, Lib.hid rfl⟩
  case round =>
    obtain ⟨k, hk, rfl, hp⟩ := hrel
    by_cases hlt : k < n
    · obtain ⟨b, off, Ak, ck, rfl, _, hc, _⟩ := h.at_ hlt
      by_cases he : (rows[k]?.getD []).length = m
      · have t : (((rows[k]?.getD []).length : Int) != (m : Int)) = false := by rw [he]; simp
        have Hp := Lib.hid (prefixLen_succ hp.out (by rw [Hl.out]; exact hlt) he)
        clear he
        go_wp2_with fail
        refine (of_fn hL).mono ?_
        rintro e w' ⟨rfl, rfl⟩
        go_wp2_with fail
        go_round
        case rel => exact ⟨k + 1, by omega, by go_num, Hp⟩
        case measure => simp [intOf]; omega
      · have t : (((rows[k]?.getD []).length : Int) != (m : Int)) = true := by rw [bne_iff_ne]; omega
        have Hf := Lib.hid (len_false (by rw [Hl.out]; exact hlt) he)
        clear he
        go_wp2_with fail
        refine (of_fn hL).mono ?_
        rintro e w' ⟨rfl, rfl⟩
        go_wp2_with fail
        go_ret
        exact ⟨(k : Int), rfl, by rw [Hf.out]; simp, rfl⟩
    · obtain rfl : k = n := by omega
      have Hf := Lib.hid (prefixLen_all hp.out Hl.out)
      go_wp2_with fail
      go_ret
      exact ⟨-1, rfl, by rw [Hf.out]; simp, rfl⟩
theorem of_contains {B : Nat} {A : Option Addr} {n c m L : Nat} {rows : List (List UInt8)} {w : World} (h : Rds w B A n rows) (hL : w.cell? ⟨L, 0, none⟩ = some (.int .i64 (m : Int))) (hn : n ≤ 9223372036854775807) :
    Calls Try.prog 73 #[.slice A n c, .func (.func 74) #[] #[.pointer (some ⟨L, 0, none⟩)]] w fun e w' => e = .returned (.bool (!lenB m rows)) ∧ w = w' := by
  go_enter Try.func73, Try.ntmps73
  go_wp2_with fail
  refine (of_index h hL hn).mono ?_
  rintro e w' ⟨i, rfl, hi, rfl⟩
  have Hi := Lib.hid hi
  clear hi
  go_wp2_with fail
  go_ret
  exact ⟨by rw [← Hi.out]; rfl, rfl⟩

/-! ### Grids as values -/
/-- The grid of these rows, so wide. -/
def gv (w : Nat) (rows : List (List UInt8)) : Value := .agg #[.int .i64 (rows.length : Int), .int .i64 (w : Int), .string (strB rows.flatten)]
theorem gv_zero : gv 0 [] = .agg #[.int .i64 0, .int .i64 0, .string { data := #[] }] := rfl
/-- What stands behind the last store: only block g has changed. -/
structure Last3 (g : Nat) (T : TypeId) (x y z : Value) (w W : World) : Prop where
  blk : Blk W g T #[x, y, z]
  far : ∀ p : Addr, p.block ≠ g → W.cell? p = w.cell? p
  size : W.heap.size = w.heap.size
  below : ∀ B w0, B ≤ g → Below B w0 w → Below B w0 W
theorem cells3 {w : World} {g : Nat} {T : TypeId} {x y z : Value} (h : Blk w g T #[x, y, z]) : w.cell? ⟨g, 0, none⟩ = some x ∧ w.cell? ⟨g, 1, none⟩ = some y ∧ w.cell? ⟨g, 2, none⟩ = some z ∧ w.frozen? ⟨g, 0, none⟩ = false ∧ w.frozen? ⟨g, 1, none⟩ = false ∧ w.frozen? ⟨g, 2, none⟩ = false := by
  refine ⟨?_, ?_, ?_, h.frozen 0, h.frozen 1, h.frozen 2⟩
  · rw [h.cell]; rfl
  · rw [h.cell]; rfl
  · rw [h.cell]; rfl
theorem Blk.three {w : World} {g : Nat} {T : TypeId} {x y z x0 y0 z0 : Value} (hg : Blk w g T #[x0, y0, z0]) : Blk (((w.setCell ⟨g, 0, none⟩ x).setCell ⟨g, 1, none⟩ y).setCell ⟨g, 2, none⟩ z) g T #[x, y, z] := by
  have := ((hg.set 0 x).set 1 y).set 2 z
  simpa using this
theorem end_grid {fn : Func} {R : Ending → World → Prop} {a : Act} {w : World} {g : Nat} {T : TypeId} {x y z x0 y0 z0 v : Value} (hg : Blk w g T #[x0, y0, z0])
    (hr : ∀ W : World, W.cell? ⟨g, 0, none⟩ = some x → W.cell? ⟨g, 1, none⟩ = some y → W.cell? ⟨g, 2, none⟩ = some z → (results fn a.tmps).run Try.prog W = .ok v W) (hd : a.defers = []) (h : ∀ W, Last3 g T x y z w W → R (.returned v) W) :
    bodyPost Try.prog fn R .ret a (((w.setCell ⟨g, 0, none⟩ x).setCell ⟨g, 1, none⟩ y).setCell ⟨g, 2, none⟩ z) := by
  have hG := hg.three (x := x) (y := y) (z := z)
  obtain ⟨e0, e1, e2, _⟩ := cells3 hG
  refine bodyPost_ret (hr _ e0 e1 e2) hd (h _ ⟨hG, fun p hp => ?_, by simp [World.setCell], fun B w0 hB hb => ((hb.setCell hB _).setCell hB _).setCell hB _⟩)
  rw [World.cell?_setCell_far _ _ _ _ (fun e => hp e.symm), World.cell?_setCell_far _ _ _ _ (fun e => hp e.symm), World.cell?_setCell_far _ _ _ _ (fun e => hp e.symm)]
theorem joined_any {B : Nat} {A : Option Addr} {n c k : Nat} {rows : List (List UInt8)} {w : World} (h : Rds w B A n rows) (hB : B ≤ w.heap.size) (hc : n ≤ c) (h47 : n ≤ 140737488355328) (hl : rows.flatten.length ≤ 140737488355328) :
    Calls Try.prog 55 #[.int .i64 (k : Int), .slice A n c] w (GridEnds (gv k rows) w) := by
  have hb0 := balloc w (.cells #[.int .i64 0, .int .i64 0, .string { data := #[] }] 26)
  have q := h.below ((Below.refl _ _).alloc hB (.cells #[.int .i64 0, .int .i64 0, .string { data := #[] }] 26))
  have hg := Blk.new w 26 #[.int .i64 0, .int .i64 0, .string { data := #[] }]
  have hz : w.heap.size < (w.alloc (.cells #[.int .i64 0, .int .i64 0, .string { data := #[] }] 26)).heap.size := by simp
  have hn := Lib.hid h.1
  clear h
  go_enter Try.func55, Try.ntmps55
  go_wp2_with fail
  refine (bjoin_any q (by simp; omega) hc h47 hl).mono ?_
  rintro e w1 ⟨A1, n1, c1, rfl, r1, b1⟩
  replace hg := hg.below b1 hz
  replace hb0 := bstep hb0 b1
  clear b1 q hz
  obtain ⟨hc0, hc1, hc2, hf0, hf1, hf2⟩ := cells3 hg
  have hcv := convert_str (c := c1) r1
  go_wp2_with fail
  refine end_grid (v := gv k rows) hg (by intro W e0 e1 e2; simp [results, Try.results55, go_sem, e0, e1, e2, gv, hn.out]) rfl fun W hl => ?_
  exact ⟨rfl, hl.below _ _ (Nat.le_refl _) hb0⟩
end Go.Proofs.Ytaidbcppecoenaa

