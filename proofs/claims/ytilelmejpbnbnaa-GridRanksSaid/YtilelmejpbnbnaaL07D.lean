import Derived.Test.YtilelmejpbnbnaaL07A
import Derived.Test.YtilelmejpbnbnaaR07B
import Derived.Test.YtilelmejpbnbnaaR07E
import Derived.Test.YtilelmejpbnbnaaSysM
/- What the two laws of grids lean on: products byte by byte, inverses from both sides, ranks. -/
namespace Go.Proofs.Ytilelmejpbnbnaa
open Go.RowKit
set_option linter.unusedVariables false
set_option maxRecDepth 100000

/-- A list of rows as a function. -/
def mt (a : List (List UInt8)) : Nat → Nat → UInt8 := fun i j => fn (a[i]?.getD []) j
theorem mt_out {a : List (List UInt8)} {p i j : Nat} (h : lenB p a = true) (hj : p ≤ j) : mt a i j = 0 := by
  unfold mt
  by_cases hi : i < a.length
  · exact fn_out (by rw [lenB_get h hi]; exact hj)
  · rw [List.getElem?_eq_none (by omega)]; rfl
theorem rows_ext {p : Nat} {a b : List (List UInt8)} (ha : lenB p a = true) (hb : lenB p b = true) (hl : a.length = b.length) (h : ∀ i, i < a.length → ∀ j, j < p → mt a i j = mt b i j) : a = b := by
  apply List.ext_getElem?
  intro i
  by_cases hi : i < a.length
  · have h1 := lenB_get ha hi
    have h2 := lenB_get hb (hl ▸ hi)
    have h3 : a[i]?.getD [] = b[i]?.getD [] := fn_inj (h1.trans h2.symm) (by
      funext j
      by_cases hj : j < p
      · exact h i hi j hj
      · rw [fn_out (by omega), fn_out (by omega)])
    rw [List.getElem?_eq_getElem hi, List.getElem?_eq_getElem (hl ▸ hi)] at h3 ⊢
    simpa using h3
  · rw [List.getElem?_eq_none (by omega), List.getElem?_eq_none (by omega)]
theorem fn_combTo {cs : List UInt8} {b : List (List UInt8)} {p : Nat} (hb : lenB p b = true) : ∀ K, K ≤ b.length → fn (combTo cs b (nulls p) K) = fun j => xs (fun k => gm (fn cs k) (mt b k j)) K := by
  intro K
  induction K with
  | zero => intro _; exact fn_nulls p
  | succ K ih =>
    intro hK
    show fn (addL (cs[K]?.getD 0) (b[K]?.getD []) (combTo cs b (nulls p) K)) = _
    rw [fn_addL (by rw [combTo_length, lenB_get hb (by omega)]; simp [nulls]), ih (by omega)]
    funext j
    rfl
theorem mt_mul {a b : List (List UInt8)} {p i : Nat} (hb : lenB p b = true) (hi : i < a.length) (j : Nat) : mt (mulL a b p) i j = mulM (mt a) (mt b) b.length i j := by
  have e : (mulL a b p)[i]?.getD [] = combTo (a[i]?.getD []) b (nulls p) b.length := by
    unfold mulL
    rw [List.getElem?_map, List.getElem?_eq_getElem hi]
    rfl
  show fn ((mulL a b p)[i]?.getD []) j = _
  rw [e, fn_combTo hb _ (Nat.le_refl _)]
  rfl
theorem mt_unit {n i j : Nat} (hi : i < n) : mt (unitG n) i j = unitM i j := by
  unfold mt unitM
  have : (unitG n)[i]?.getD [] = unitL n i := by simp [unitG, hi]
  rw [this, unit_fn]
  by_cases h : j = i
  · rw [if_pos ⟨h, hi⟩, if_pos h.symm]
  · rw [if_neg (fun e => h e.1), if_neg (fun e => h e.symm)]
theorem unitG_lenB (n : Nat) : lenB n (unitG n) = true := by
  unfold lenB unitG
  rw [List.all_eq_true]
  intro r hr
  obtain ⟨i, _, rfl⟩ := List.mem_map.1 hr
  simp [unitL_length]
theorem inv_left {n : Nat} {rows D : List (List UInt8)} (h : InvIs n rows D) (hn : rows.length = n) {i j : Nat} (hi : i < n) : mulM (mt D) (mt rows) n i j = unitM i j := by
  have := h.2.2.1 i hi j
  unfold unitM
  by_cases e : j = i
  · rw [if_pos e] at this; rw [if_pos e.symm]; exact this
  · rw [if_neg e] at this; rw [if_neg (fun f => e f.symm)]; exact this
theorem inv_mul_left {n : Nat} {rows D : List (List UInt8)} (h : InvIs n rows D) (hl : lenB n rows = true) (hn : rows.length = n) : mulL D rows n = unitG n := by
  refine rows_ext (mulL_lenB _ _ _) (unitG_lenB n) (by rw [mulL_len, unitG_len, h.1]) fun i hi j hj => ?_
  rw [mulL_len, h.1] at hi
  rw [mt_mul hl (by rw [h.1]; exact hi), mt_unit hi, hn, inv_left h hn hi]
/-- The inverse's inverse is the rows. -/
theorem inv_back {n : Nat} {rows D C : List (List UInt8)} (h : InvIs n rows D) (hl : lenB n rows = true) (hn : rows.length = n) (k : InvIs n D C) : C = rows := by
  refine rows_ext k.2.1 hl (by rw [k.1, hn]) fun i hi j hj => ?_
  rw [k.1] at hi
  have e1 : mulM (mulM (mt C) (mt D) n) (mt rows) n i j = mt rows i j := by
    have : mulM (mulM (mt C) (mt D) n) (mt rows) n i j = mulM unitM (mt rows) n i j := xs_congr fun t ht => by rw [inv_left k h.1 hi]
    rw [this, unit_mul hi]
  rw [mul_assocM] at e1
  have e2 : mulM (mt C) (mulM (mt D) (mt rows) n) n i j = mulM (mt C) unitM n i j := xs_congr fun t ht => by rw [inv_left h hn ht]
  rw [e2, mul_unit hj] at e1
  exact e1
theorem pts_rows {n : Nat} {rows : List (List UInt8)} (h : lenB n rows = true) : rows.map pt0 = rowsP (mt rows) rows.length n := by
  apply List.ext_getElem?
  intro i
  by_cases hi : i < rows.length
  · rw [List.getElem?_map, List.getElem?_eq_getElem hi, rowsP, List.getElem?_map, List.getElem?_range hi, Option.map_some, Option.map_some]
    congr 1
    refine Pt.eqI (fun j => ?_) (fun j => ?_)
    · show fn rows[i] j = if j < n then mt rows i j else 0
      have e : mt rows i j = fn rows[i] j := by unfold mt; rw [List.getElem?_eq_getElem hi]; rfl
      by_cases hj : j < n
      · rw [if_pos hj, e]
      · rw [if_neg hj, ← e, mt_out h (by omega)]
    · rw [pt0_d]; rfl
  · rw [List.getElem?_eq_none (by simp; omega), List.getElem?_eq_none (by simp [rowsP]; omega)]
theorem rk_unit (n : Nat) : Rk (rowsP unitM n n) n := by
  refine ⟨(List.range n).map fun i => (i, bare fun j => if j < n then unitM i j else 0), ⟨fun e he => ?_, ?_⟩, by simp, fun m => ?_⟩
  · obtain ⟨i, hi, rfl⟩ := List.mem_map.1 he
    have hi := List.mem_range.1 hi
    refine ⟨?_, fun j hj => ?_⟩
    · show (if i < n then unitM i i else 0) = 1
      rw [if_pos hi, unitM, if_pos rfl]
    · show (if j < n then unitM i j else 0) = 0
      have hj' : j < i := hj
      rw [if_pos (by omega), unitM, if_neg (by omega)]
  · simp [leads, List.map_map, Function.comp_def, List.nodup_range]
  · simp [pts, rowsP, List.map_map, Function.comp_def]
theorem inv_rank {n r : Nat} {rows D : List (List UInt8)} (h : InvIs n rows D) (hl : lenB n rows = true) (hn : rows.length = n) (hr : Rk (rows.map pt0) r) : n ≤ r := by
  rw [pts_rows hl, hn] at hr
  have e : rowsP (mulM (mt D) (mt rows) n) n n = rowsP unitM n n := by
    unfold rowsP
    apply List.map_congr_left
    intro i hi
    have hi := List.mem_range.1 hi
    congr 1
    funext j
    by_cases hj : j < n
    · rw [if_pos hj, if_pos hj, inv_left h hn hi]
    · rw [if_neg hj, if_neg hj]
  exact rank_mul_right (by rw [e]; exact rk_unit n) hr
theorem made_ok {n : Nat} {rows : List (List UInt8)} (hn : n ≤ 30) (h : rows.length ≤ 30) : GridOk n (madeL n rows) := by
  refine ⟨made_fit n rows, by omega, by rw [made_len]; omega, ?_⟩
  rw [made_len]
  have : rows.length * n ≤ 30 * 30 := Nat.mul_le_mul h hn
  omega
theorem few7_len {rows : List (List UInt8)} (h : few7B rows = true) : rows.length ≤ 30 := by
  simp [few7B] at h
  exact h.2
theorem sameG_self' (k : Nat) (a : List (List UInt8)) : sameG k a k a = true := by simp [sameG]
end Go.Proofs.Ytilelmejpbnbnaa
