import Derived.Test.YtilelmejpbnbnaaGridB
import Derived.Laws.IdiomStrings
import Derived.IntWalk
/- Rows made one by one; grid.Unit; a grid's rows. -/
namespace Go.Proofs.Ytilelmejpbnbnaa
open Go.RowKit
set_option linter.unusedVariables false
set_option maxRecDepth 100000

/-! ### Rows made one by one -/
def IsSl (v : Value) : Prop := ∃ A n c, v = .slice A n c
/-- Block g holds n slices; the first ones read as these rows. -/
def Filled (w : World) (g n : Nat) (rows : List (List UInt8)) : Prop :=
  ∃ cs : List Value, cs.length = n ∧ Blk w g 52 cs.toArray ∧ (∀ v ∈ cs, IsSl v) ∧ rows.length ≤ n ∧ ∀ (i : Nat) us, rows[i]? = some us → ∃ A c, cs[i]? = some (.slice A us.length c) ∧ Rd w w.heap.size A us.length us
theorem NoBytes.sl {cs : List Value} (h : ∀ v ∈ cs, IsSl v) : NoBytes cs.toArray := by
  intro i v u hv e
  have hm : v ∈ cs := by
    have := Array.mem_of_getElem? hv
    simpa using this
  obtain ⟨A, n, c, rfl⟩ := h v hm
  cases e
theorem Filled.lt {w : World} {g n : Nat} {rows : List (List UInt8)} (h : Filled w g n rows) : g < w.heap.size := by
  obtain ⟨cs, _, h2, _⟩ := h
  exact h2.lt
theorem Filled.step {w w' : World} {g n : Nat} {rows : List (List UInt8)} (h : Filled w g n rows) (hb : Below w.heap.size w w') : Filled w' g n rows := by
  obtain ⟨cs, h1, h2, h3, h4, h5⟩ := h
  refine ⟨cs, h1, h2.below hb h2.lt, h3, h4, fun i us hu => ?_⟩
  obtain ⟨A, c, h6, h7⟩ := h5 i us hu
  exact ⟨A, c, h6, h7.step hb⟩
theorem Filled.cell {w : World} {g n k : Nat} {rows : List (List UInt8)} (h : Filled w g n rows) (hk : k < n) : (∃ A m c, w.cell? ⟨g, k, none⟩ = some (.slice A m c)) ∧ w.frozen? ⟨g, k, none⟩ = false := by
  obtain ⟨cs, h1, h2, h3, _⟩ := h
  refine ⟨?_, h2.frozen k⟩
  rw [h2.cell k]
  have hk' : k < cs.length := by omega
  obtain ⟨A, m, c, e⟩ := h3 cs[k] (List.getElem_mem hk')
  exact ⟨A, m, c, by simp [hk', e]⟩
theorem Filled.put {w : World} {g n c k m : Nat} {A : Option Addr} {us : List UInt8} {rows : List (List UInt8)} (h : Filled w g n rows) (hk : rows.length = k) (hkn : k < n) (hm : us.length = m) (hr : Rd w w.heap.size A m us) :
    Filled (w.setCell ⟨g, k, none⟩ (.slice A m c)) g n (rows ++ [us]) := by
  subst hm hk
  obtain ⟨cs, h1, h2, h3, h4, h5⟩ := h
  have hs : (w.setCell ⟨g, rows.length, none⟩ (.slice A us.length c)).heap.size = w.heap.size := by simp [World.setCell]
  have hset : Blk (w.setCell ⟨g, rows.length, none⟩ (.slice A us.length c)) g 52 (cs.set rows.length (.slice A us.length c)).toArray := by
    have := h2.set rows.length (.slice A us.length c)
    simpa using this
  refine ⟨cs.set rows.length (.slice A us.length c), by simpa using h1, hset, ?_, by simp; omega, fun i us' hu => ?_⟩
  · intro v hv
    rcases List.mem_or_eq_of_mem_set hv with hv | rfl
    · exact h3 v hv
    · exact ⟨_, _, _, rfl⟩
  · rw [hs]
    by_cases hi : i < rows.length
    · rw [List.getElem?_append_left hi] at hu
      obtain ⟨A', c', h6, h7⟩ := h5 i us' hu
      refine ⟨A', c', ?_, ?_⟩
      · rw [List.getElem?_set_ne (by omega)]; exact h6
      · exact h7.far h2 (NoBytes.sl h3) fun p hp => World.cell?_setCell_far _ _ _ _ (fun e => hp e.symm)
    · have hi' : i = rows.length := by
        have := (List.getElem?_eq_some_iff.1 hu).1
        simp at this; omega
      subst hi'
      rw [List.getElem?_append_right (by omega)] at hu
      simp at hu
      subst hu
      refine ⟨A, c, ?_, ?_⟩
      · rw [List.getElem?_set_self (by omega)]
      · exact hr.far h2 (NoBytes.sl h3) fun p hp => World.cell?_setCell_far _ _ _ _ (fun e => hp e.symm)
theorem Filled.rds {w : World} {g n : Nat} {rows : List (List UInt8)} (h : Filled w g n rows) (hn : rows.length = n) : Rds w w.heap.size (some ⟨g, 0, none⟩) n rows := by
  obtain ⟨cs, h1, h2, h3, h4, h5⟩ := h
  refine ⟨hn, fun hp => ⟨g, 0, rfl, h2.lt, fun i us hu => ?_⟩⟩
  obtain ⟨A, c, h6, h7⟩ := h5 i us hu
  refine ⟨A, c, ?_, h7⟩
  rw [Nat.zero_add, h2.cell i]
  simpa using h6
def nils (n : Nat) : List Value := List.replicate n (.slice none 0 0)
theorem Filled.new (w : World) (n : Nat) : Filled (w.alloc (.cells (nils n).toArray 52)) w.heap.size n [] := by
  refine ⟨nils n, by simp [nils], Blk.new _ _ _, ?_, by simp, fun i us h => by simp at h⟩
  intro v hv
  simp only [nils, List.mem_replicate] at hv
  exact ⟨_, _, _, hv.2⟩
theorem make_rows (n : Nat) (hn : n ≤ 5864062014805) (w : World) : (Instr.makeSlice 22 (.int .i64 (n : Int)) (.int .i64 (n : Int))).run Try.prog w =
    .ok (.slice (some ⟨w.heap.size, 0, none⟩) n n) (w.alloc (.cells (nils n).toArray 52)) := by
  obtain ⟨i0, hi0, hz0, hz1, hz2⟩ := info_parts row_info
  have h := run_make (P := Try.prog) w 22 52 i0 _ Try.underlying22 hi0 hz0 .i64 .i64 (n : Int) (n : Int) (by omega) (Int.le_refl _) (by rw [hz2]; omega) (by omega)
  rw [h]
  simp only [Int.toNat_natCast, hz1, Nat.mul_one]
  have e : madeCells (Value.slice none 0 0).cells n = (nils n).toArray := by
    apply Array.ext'
    have := toList_madeCells_one (.slice none 0 0) n
    simp only [Value.cells]
    rw [this]
    simp [nils]
  rw [e]

/-! ### Unit -/
theorem gunit_any (n i : Nat) (w : World) (h1 : i < n) (h2 : n ≤ 65536) :
    Calls Try.prog 57 #[.int .i64 n, .int .i64 i] w fun e w' => ∃ g, e = .returned (.slice (some ⟨g, 0, none⟩) n n) ∧ Blk w' g 5 (bvs (unitL n i)).toArray ∧ Below w.heap.size w w' := by
  have C := unit_ok n i w h1 h2
  clear h1 h2
  go_enter Try.func57, Try.ntmps57
  go_wp2_with fail
  refine C.mono ?_
  rintro e w' ⟨g, rfl, hg, hb⟩
  clear C
  go_wp2_with fail
  go_ret
  exact ⟨g, rfl, hg, hb⟩
def unitG (n : Nat) : List (List UInt8) := (List.range n).map (unitL n)
theorem unitG_len (n : Nat) : (unitG n).length = n := by simp [unitG]
theorem unitG_take {n k : Nat} (h : k < n) : (unitG n).take k ++ [unitL n k] = (unitG n).take (k + 1) := by
  rw [List.take_succ_eq_append_getElem (by rw [unitG_len]; exact h)]
  simp [unitG]
theorem unitG_ok {n : Nat} (h : n ≤ 256) : GridOk n (unitG n) := by
  refine ⟨?_, by omega, by rw [unitG_len]; omega, by rw [unitG_len]; exact Nat.le_trans (Nat.mul_le_mul h h) (by omega)⟩
  unfold lenB
  rw [List.all_eq_true]
  intro r hr
  obtain ⟨i, _, rfl⟩ := List.mem_map.1 hr
  simp [unitL_length]
theorem GridOk.flat {w : Nat} {rows : List (List UInt8)} (h : GridOk w rows) : rows.flatten.length ≤ 65536 := by
  rw [flat_len h.1]; exact h.2.2.2
theorem gunitn_ok (n : Nat) (w : World) (h : n ≤ 256) :
    Calls Try.prog 22 #[.int .i64 n] w (GridEnds (.tuple #[gv n (unitG n), .int .i64 0]) w) := by
  have hb0 := balloc w (.cells #[.int .i64 0, .int .i64 0, .string { data := #[] }] 26)
  have hg := Blk.new w 26 #[.int .i64 0, .int .i64 0, .string { data := #[] }]
  have hn : (n : Int) ≤ 256 := by omega
  have t0 : decide ((n : Int) < 0) = false := by simp
  have t1 : decide (256 < (n : Int)) = false := by simp; omega
  have hmk := make_rows n (by omega) (w.alloc (.cells #[.int .i64 0, .int .i64 0, .string { data := #[] }] 26))
  have hF := Filled.new (w.alloc (.cells #[.int .i64 0, .int .i64 0, .string { data := #[] }] 26)) n
  have hb1 := bstep hb0 (balloc _ (.cells (nils n).toArray 52))
  have hg1 := hg.alloc (.cells (nils n).toArray 52)
  have hlt := hg1.lt
  rw [World.size_alloc] at hF
  go_enter Try.func22, Try.ntmps22
  go_wp2_with fail
  go_loopw [17] (fun i wr => ∃ k : Nat, k ≤ n ∧ i = .int .i64 k ∧ Filled wr (w.heap.size + 1) n ((unitG n).take k) ∧ Blk wr w.heap.size 26 #[.int .i64 0, .int .i64 0, .string { data := #[] }] ∧ Below w.heap.size w wr) (fun i _ => n - (intOf i).toNat)
  case atStart => exact ⟨0, by omega, rfl, hF, hg1, hb1⟩
  case round =>
    clear hF hg1 hb1 hlt hmk hg hb0
    obtain ⟨k, hk, rfl, hF, hg, hb⟩ := hrel
    by_cases hlt : k < n
    · go_wp2_with fail
      refine (gunit_any n k _ hlt (by omega)).mono ?_
      rintro e w1 ⟨g, rfl, hu, b1⟩
      replace hF := hF.step b1
      replace hg := hg.below b1 hg.lt
      replace hb := bstep hb b1
      obtain ⟨⟨A, m, c, hcell⟩, hfz⟩ := hF.cell hlt
      have hr := (Rd.of_blk hu).more hu.lt
      rw [unitL_length] at hr
      have HP := Lib.hid (hF.put (c := n) (by rw [List.length_take, unitG_len]; omega) hlt (unitL_length n k) hr)
      rw [unitG_take hlt] at HP
      have HG := Lib.hid (hg.far (p := (⟨w.heap.size + 1, k, none⟩ : Addr)) (by simp) (.slice (some ⟨g, 0, none⟩) n n))
      have HB := Lib.hid (hb.setCell (p := (⟨w.heap.size + 1, k, none⟩ : Addr)) (by simp) (.slice (some ⟨g, 0, none⟩) n n))
      clear hr hF hg hb hu b1
      go_wp2_with fail
      go_roundw
      case rel => exact ⟨k + 1, by omega, by go_num, HP.out, HG.out, HB.out⟩
      case measure => simp [intOf]; omega
    · obtain rfl : k = n := by omega
      have hl : (unitG k).take k = unitG k := List.take_of_length_le (by rw [unitG_len]; omega)
      rw [hl] at hF
      clear hl hlt
      have hR := hF.rds (unitG_len k)
      clear hF
      go_wp2_with fail
      refine (joined_any hR (Nat.le_refl _) (Nat.le_refl _) (by omega) (Nat.le_trans (unitG_ok h).flat (by omega))).mono ?_
      rintro e w1 ⟨rfl, b1⟩
      replace hg := hg.below b1 hg.lt
      replace hb := bstep hb b1
      clear hR b1
      obtain ⟨hc0, hc1, hc2, hf0, hf1, hf2⟩ := cells3 hg
      simp only [gv]
      go_wp2_with fail
      refine end_grid (v := .tuple #[gv k (unitG k), .int .i64 0]) hg (by intro W e0 e1 e2; simp [results, Try.results22, go_sem, e0, e1, e2, gv]) rfl fun W hl => ?_
      exact ⟨rfl, hl.below _ _ (Nat.le_refl _) hb⟩

/-! ### A grid's rows -/
def sameG (k : Nat) (rows : List (List UInt8)) (k2 : Nat) (rows2 : List (List UInt8)) : Bool := decide (rows.length = rows2.length ∧ k = k2 ∧ rows.flatten = rows2.flatten)
theorem strB_list (us : List UInt8) : (strB us).toList = us := by simp [strB]
theorem gsame_any (k k2 : Nat) (rows rows2 : List (List UInt8)) (w : World) : Calls Try.prog 23 #[gv k rows, gv k2 rows2] w (GridEnds (.bool (sameG k rows k2 rows2)) w) := by
  simp only [gv]
  go_enter Try.func23, Try.ntmps23
  go_wp2_with fail
  all_goals
    go_ret
    refine ⟨congrArg (fun b => Ending.returned (Value.bool b)) ?_, by go_grown⟩
    simp only [strB_list, Int.ofNat_inj] at *
    simp [sameG, *]
theorem strB_extract (us : List UInt8) (p q : Nat) : (strB us).extract p q = strB ((us.drop p).take (q - p)) := by
  apply ByteArray.ext
  simp [strB, List.extract_eq_take_drop]
theorem bytes_str {us : List UInt8} (w : World) : ∃ c w', us.length ≤ c ∧ (convert 9 52 (.string (strB us))).run Try.prog w = .ok (.slice (some ⟨w.heap.size, 0, none⟩) us.length c) w' ∧ w'.heap.size = w.heap.size + 1 ∧ Rd w' w'.heap.size (some ⟨w.heap.size, 0, none⟩) us.length us ∧ Below w.heap.size w w' := by
  have h := run_bytes_of_string (P := Try.prog) w 9 52 5 (strB us) Try.underlying9 Try.underlying52 Try.underlying5
  have hs : (strB us).size = us.length := by simp [strB, ByteArray.size]
  have hc : us.length ≤ grownCap w (strB us).size 0 5 := by rw [← hs]; exact grownCap_ge _ _ _ _
  rw [hs] at h hc
  generalize grownCap w us.length 0 5 = c at *
  refine ⟨c, _, hc, h, by simp, ⟨rfl, fun hp => ⟨w.heap.size, 0, rfl, by simp, fun i u hu => ?_⟩⟩, (Below.refl _ _).drew.alloc (Nat.le_refl _) _⟩
  have hi := (List.getElem?_eq_some_iff.1 hu).1
  have hnew := heap_alloc_new w.drew (.cells (bytesRow (strB us) c) 5 ((bytesRow (strB us) c).size, (bytesRow (strB us) c).size + 1))
  rw [cell_of_row _ w.heap.size (0 + i) _ _ _ hnew, Nat.zero_add]
  unfold bytesRow
  rw [Array.getElem?_append_left (by simpa [strB] using hi)]
  simp [strB, hu, bv]
theorem flat_row {k i : Nat} {rows : List (List UInt8)} (h : lenB k rows = true) (hi : i < rows.length) : (rows.flatten.drop (i * k)).take k = rows[i]?.getD [] := by
  induction rows generalizing i with
  | nil => simp at hi
  | cons r rs ih =>
    simp only [lenB, List.all_cons, Bool.and_eq_true, beq_iff_eq] at h
    rw [List.flatten_cons]
    cases i with
    | zero =>
      rw [Nat.zero_mul, List.drop_zero, List.take_append_of_le_length (by omega), List.take_of_length_le (by omega)]
      simp
    | succ i =>
      rw [show (i + 1) * k = r.length + i * k by rw [Nat.succ_mul, h.1]; omega, ← List.drop_drop, List.drop_left]
      simpa using ih (by simpa [lenB] using h.2) (by simpa using hi)
theorem wrap_small {p : Nat} (h : p ≤ 65536) : wrap64 (p : Int) = (p : Int) := IntWalk.wrap64_in _ ⟨by omega, by omega⟩
theorem wrap_mul {i k p : Nat} (hp : i * k = p) (h : p ≤ 65536) : wrap64 ((i : Int) * (k : Int)) = (p : Int) := by
  rw [← Int.natCast_mul, hp]; exact wrap_small h
theorem wrap_mul1 {i k q : Nat} (hq : (i + 1) * k = q) (h : q ≤ 65536) : wrap64 (((i : Int) + 1) * (k : Int)) = (q : Int) := by
  rw [show ((i : Int) + 1) = ((i + 1 : Nat) : Int) by simp, ← Int.natCast_mul, hq]; exact wrap_small h
theorem grow_any (k i : Nat) (rows : List (List UInt8)) (w : World) (h : GridOk k rows) (hi : i < rows.length) :
    Calls Try.prog 53 #[gv k rows, .int .i64 (i : Int)] w fun e w' => ∃ A c, e = .returned (.slice A k c) ∧ Rd w' w'.heap.size A k (rows[i]?.getD []) ∧ Below w.heap.size w w' := by
  have h1 := h.2.2.1
  have hfl := flat_len h.1
  have hle : (i + 1) * k ≤ rows.length * k := Nat.mul_le_mul_right _ hi
  have hcap := h.2.2.2
  have hrow := flat_row h.1 hi
  have hex : (strB rows.flatten).extract (i * k) ((i + 1) * k) = strB (rows[i]?.getD []) := by
    rw [strB_extract, Nat.succ_mul, show i * k + k - i * k = k by omega, hrow]
  have hsz : (strB rows.flatten).size = rows.length * k := by rw [← hfl]; simp [strB, ByteArray.size]
  have hrl : (rows[i]?.getD []).length = k := by rw [← hrow, List.length_take, List.length_drop, hfl]; rw [Nat.succ_mul] at hle; omega
  obtain ⟨p, hp⟩ : ∃ p, i * k = p := ⟨_, rfl⟩
  obtain ⟨q, hq⟩ : ∃ q, (i + 1) * k = q := ⟨_, rfl⟩
  have hpq : p ≤ q := by rw [← hp, ← hq, Nat.succ_mul]; omega
  rw [hp, hq] at hex
  rw [hq] at hle
  have hq6 : (q : Int) ≤ 65536 := by omega
  have hp6 : (p : Int) ≤ 65536 := by omega
  have hi6 : (i : Int) ≤ 65536 := by omega
  have t1 : (q : Int) ≤ ((strB rows.flatten).size : Int) := by rw [hsz]; omega
  have t2 : (p : Int) ≤ (q : Int) := by omega
  have p6 : p ≤ 65536 := by omega
  have q6 : q ≤ 65536 := by omega
  have w1 := wrap_mul hp p6
  have w2 := wrap_mul1 hq q6
  clear p6 q6
  obtain ⟨c, W, hcl, hcv, hws, hr, hb⟩ := bytes_str (us := rows[i]?.getD []) (w.alloc (.cells #[.int .i64 (rows.length : Int), .int .i64 (k : Int), .string (strB rows.flatten)] 26))
  rw [hrl] at hr hcv
  rw [← hex] at hcv
  have hb' := bstep (balloc w _) hb
  clear hex hsz hle hcap hrow hrl hfl hp hq h1 h hpq hb hws hcl
  simp only [gv]
  go_enter Try.func53, Try.ntmps53
  go_wp2_with fail
  go_ret
  exact ⟨_, _, rfl, by simpa using hr, hb'⟩
end Go.Proofs.Ytilelmejpbnbnaa
