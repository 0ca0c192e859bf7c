import Derived.Test.YtilelmejpbnbnaaR07E
import Derived.Test.YtilelmejpbnbnaaSysM
/- The document's Rank. -/
namespace Go.Proofs.Ytilelmejpbnbnaa
open Go.RowKit
set_option linter.unusedVariables false
set_option maxRecDepth 100000

set_option maxHeartbeats 600000 in
theorem refrank_any {B m c n : Nat} {A : Option Addr} {rows : List (List UInt8)} {w : World} (h : Rds w B A m rows) (hB : B ≤ w.heap.size) (hm : m ≤ 50000) (hn : n ≤ 140737488355327) (hf : lenB n rows = true) :
    Calls Try.prog 11 #[.slice A m c] w (RankIs rows w) := by
  have HL := Lib.hid h.1
  have HF := Lib.hid hf
  replace h := h.more hB
  clear hf
  go_enter Try.func11, Try.ntmps11
  go_wp2_with fail
  go_loopw [3, 8] (fun l i wr => ∃ (k : Nat) (L : List RowL) (A2 : Option Addr) (c2 : Nat), k ≤ m ∧ i = .int .i64 k ∧ l = .slice A2 L.length c2 ∧ RL wr wr.heap.size A2 L.length L ∧ L.length ≤ c2 ∧ c2 ≤ 9223372036854775807 ∧ Hid (RefSo n k L rows) ∧ Below w.heap.size w wr) (fun _ i _ => m - (intOf i).toNat)
  case atStart => exact ⟨0, [], none, 0, by omega, rfl, rfl, RL.nil, by simp, by omega, Lib.hid (RefSo.start n rows), Below.refl _ _⟩
  case round =>
    obtain ⟨k, L, A2, c2, hk, rfl, rfl, hR, hc1, hc2, hSo, hb⟩ := hrel
    by_cases hlt : k < m
    · obtain ⟨b1, o1, Ar, cr, rfl, hb1, hcell, hr1⟩ := (h.below hb).at_ hlt
      have hu : rows[k]? = some (rows[k]?.getD []) := by rw [List.getElem?_eq_getElem (by rw [HL.out]; exact hlt)]; rfl
      have Hul : Hid ((rows[k]?.getD []).length = n) := Lib.hid (lenB_get HF.out (by rw [HL.out]; exact hlt))
      have Hnx := Lib.hid (hSo.out.step hu Hul.out)
      have Hsz := Lib.hid hSo.out.2.1
      have hLl : L.length ≤ 60000 := by have := Hsz.out; omega
      clear hu
      generalize rows[k]?.getD [] = us at *
      have hx : RowIs wr (us, []) (.agg #[.slice Ar us.length cr, .slice none 0 0]) := RowIs.mk (hr1.more hb.size) Rd.nil (by rw [Hul.out]; omega) (by omega)
      go_wp2_with fail
      refine (refinsert_any (n := n) (m := 0) hR hx hSo.out.1.1 Hul.out rfl hLl hc1 hc2).mono ?_
      rintro e w1 ⟨A3, c3, rfl, hR3, hk3, hk4, kb⟩
      have hb2 := bstep hb kb
      clear hR hx hr1 hcell kb
      go_wp2_with fail
      go_roundw
      case rel => exact ⟨k + 1, _, A3, c3, by omega, by go_num, rfl, hR3, hk3, hk4, Hnx, hb2⟩
      case measure => simp [intOf]; omega
    · have HR := Lib.hid (hSo.out.rank (by rw [HL.out]; omega))
      go_wp2_with fail
      go_ret
      exact ⟨_, rfl, HR.out, hb⟩
end Go.Proofs.Ytilelmejpbnbnaa
