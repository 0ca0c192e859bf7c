import Derived.Test.YtilelmejpbnbnaaL07D
import Derived.Test.YtilelmejpbnbnaaR07H
/- What GridRanks leans on: ranks of turned grids and products, determinants. -/
namespace Go.Proofs.Ytilelmejpbnbnaa
open Go.RowKit
set_option linter.unusedVariables false
set_option maxRecDepth 100000

theorem colL_at (rows : List (List UInt8)) (j i : Nat) : (colL rows j)[i]?.getD 0 = mt rows i j := by
  unfold colL mt fn
  rw [List.getElem?_map]
  cases rows[i]? with
  | none => rfl
  | some r => rfl
theorem mt_turn {K j i : Nat} {L : List (List UInt8)} (hj : j < K) : mt (turnL K L) j i = mt L i j := by
  show fn ((turnL K L)[j]?.getD []) i = _
  rw [turnL_at hj]
  exact colL_at L j i
theorem turn_turn {K : Nat} {L : List (List UInt8)} (h : lenB K L = true) : turnL L.length (turnL K L) = L := by
  have h1 : lenB K (turnL L.length (turnL K L)) = true := by
    have := turnL_lenB L.length (turnL K L)
    rwa [turnL_len] at this
  refine rows_ext h1 h (turnL_len _ _) fun i hi j hj => ?_
  rw [turnL_len] at hi
  rw [mt_turn hi, mt_turn hj]
theorem turn_rank {K r s : Nat} {L : List (List UInt8)} (h : lenB K L = true) (hr : Rk (L.map pt0) r) (hs : Rk ((turnL K L).map pt0) s) : s = r := by
  rw [pts_rows h] at hr
  rw [pts_rows (turnL_lenB K L), turnL_len] at hs
  have e : rowsP (mt (turnL K L)) K L.length = rowsP (fun j i => mt L i j) K L.length := by
    unfold rowsP
    apply List.map_congr_left
    intro j hj
    have hj := List.mem_range.1 hj
    congr 1
    funext i
    rw [mt_turn hj]
  rw [e] at hs
  exact (rank_turned hr hs).symm
theorem rk_wide {K r : Nat} {L : List (List UInt8)} (h : lenB K L = true) (hr : Rk (L.map pt0) r) : r ≤ K ∧ r ≤ L.length := by
  rw [pts_rows h] at hr
  refine ⟨hr.le_wide rowsP_wide, ?_⟩
  have := hr.le_len rowsP_bare
  rwa [rowsP_len] at this
theorem prod_pts {K2 : Nat} {L1 L2 : List (List UInt8)} (h2 : lenB K2 L2 = true) : (mulL L1 L2 K2).map pt0 = rowsP (mulM (mt L1) (mt L2) L2.length) L1.length K2 := by
  rw [pts_rows (mulL_lenB L1 L2 K2), mulL_len]
  unfold rowsP
  apply List.map_congr_left
  intro i hi
  have hi := List.mem_range.1 hi
  congr 1
  funext j
  rw [mt_mul h2 hi]
theorem prod_left {K1 K2 r p : Nat} {L1 L2 : List (List UInt8)} (h1 : lenB K1 L1 = true) (h2 : lenB K2 L2 = true) (he : K1 = L2.length) (hr : Rk (L1.map pt0) r) (hp : Rk ((mulL L1 L2 K2).map pt0) p) : p ≤ r := by
  rw [prod_pts h2] at hp
  rw [pts_rows h1, he] at hr
  exact rank_mul_left hp hr
theorem prod_right {K2 r p : Nat} {L1 L2 : List (List UInt8)} (h2 : lenB K2 L2 = true) (hr : Rk (L2.map pt0) r) (hp : Rk ((mulL L1 L2 K2).map pt0) p) : p ≤ r := by
  rw [prod_pts h2] at hp
  rw [pts_rows h2] at hr
  exact rank_mul_right hp hr
theorem inv_rank_left {n r : Nat} {rows D : List (List UInt8)} (h : InvIs n rows D) (hl : lenB n rows = true) (hn : rows.length = n) (hr : Rk (D.map pt0) r) : n ≤ r := by
  have h1 : Rk ((mulL D rows n).map pt0) n := by
    rw [inv_mul_left h hl hn, pts_rows (unitG_lenB n), unitG_len]
    have e : rowsP (mt (unitG n)) n n = rowsP unitM n n := by
      unfold rowsP
      apply List.map_congr_left
      intro i hi
      have hi := List.mem_range.1 hi
      congr 1
      funext j
      rw [mt_unit hi]
    rw [e]
    exact rk_unit n
  exact prod_left h.2.1 hl hn.symm hr h1
theorem inv_inv {n : Nat} {rows D : List (List UInt8)} (h : InvIs n rows D) (hl : lenB n rows = true) (hn : rows.length = n) : ¬ ∀ r, Rk (D.map pt0) r → r < n := by
  intro hh
  obtain ⟨r, _, hr⟩ := Rk.exists (L := D.map pt0) (fun a ha => by
    obtain ⟨us, _, rfl⟩ := List.mem_map.1 ha
    exact pt0_d us)
  have h1 := hh r hr
  have h2 := inv_rank_left h hl hn hr
  omega
theorem det_full {r : Nat} {L : List (List UInt8)} (h : lenB L.length L = true) (hr : Rk (L.map pt0) r) : r = L.length ↔ detL L.length L ≠ 0 := by
  rw [detL_dt h rfl]
  rw [pts_rows h] at hr
  exact det_iff hr
theorem bv_ne0 {x : UInt8} (h : x ≠ 0) : (bv x != 0) = true := by
  rw [bne_iff_ne]
  intro e
  apply h
  have : x.toNat = 0 := by unfold bv at e; omega
  exact UInt8.toNat_inj.1 (by simpa using this)
end Go.Proofs.Ytilelmejpbnbnaa
