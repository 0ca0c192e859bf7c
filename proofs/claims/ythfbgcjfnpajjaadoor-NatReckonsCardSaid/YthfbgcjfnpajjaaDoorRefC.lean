import Derived.Test.YthfbgcjfnpajjaaDoorRefB
import Derived.Test.YthfbgcjfnpajjaaDoorL06A
/- To, Is: from bytes to numbers, and back. -/
namespace Go.Proofs.YthfbgcjfnpajjaaDoor
open Go.RowKit
set_option linter.unusedVariables false
set_option maxRecDepth 100000

theorem hexT_short (us : List UInt8) : (hexT (leN us)).length ≤ 2 * us.length + 1 := hexT_length (Nat.lt_of_lt_of_le (leN_lt us) (Nat.pow_le_pow_right (by omega) (by omega))) (by omega)
theorem to_any {A : Option Addr} {n c : Nat} {us : List UInt8} {w : World} (h : Rd w w.heap.size A n us) (hn : n ≤ 4000) (hc : n ≤ c) (hc2 : c ≤ 9223372036854775807) :
    Calls Tryd.prog 10 #[.slice A n c] w (GivesNat (leN us) w) := by
  have b0 := balloc w (.cells #[.slice none 0 0] 27)
  have gR := Blk.new w 27 #[.slice none 0 0]
  have h0 := h.below b0
  have C := trim_any h0 hc hc2
  have Hl := Lib.hid h.1
  have hP : ∀ X, Calls Tryd.prog 8 #[.string (bs (hexT (leN us)))] X (GivesPair (leN us) X) := fun X => by
    have := parse_yes (hexT (leN us)) (w := X) (by have := hexT_short us; rw [Hl.out] at this; omega) (textB_hexT _)
    rwa [hexV_hexT] at this
  have HP := Lib.hid hP
  clear hP h
  go_enter Tryd.func10, Tryd.ntmps10
  go_wp2_with fail
  refine C.mono ?_
  rintro e w' ⟨⟨m, rfl, hm, _, hle⟩, rfl⟩
  have T := reftext_any (c := c) (h0.part_take hm) (by simp) (by omega)
  rw [hle] at T
  clear C h0 hle
  go_wp2_with fail
  refine T.mono ?_
  rintro e w2 ⟨rfl, b2⟩
  have gR2 := blk_size gR b2
  have k2 := bstep b0 b2
  clear T gR b0 b2
  go_wp2_with fail
  refine (HP.out _).mono ?_
  rintro e w3 ⟨v3, rfl, h3, b3⟩
  obtain ⟨A3, n3, c3, rfl, h3⟩ := h3.open_
  have gR3 := blk_size gR2 b3
  have k3 := bstep k2 b3
  have hR3 := gR3.lt
  have z0 := (blk_cell gR3).1
  have z1 := (blk_cell gR3).2
  clear gR2 b3 k2
  go_wp2_with fail
  have gR4 := (blk_one (y := .slice A3 n3 c3) gR3).alloc (.cells #[.slice A3 n3 c3] 27)
  obtain ⟨y0, y1⟩ := blk_cell gR4
  have h4 := h3.set (y := .slice A3 n3 c3) gR3
  rw [← size_setCell' w3 ⟨w.heap.size, 0, none⟩ (.slice A3 n3 c3)] at h4
  have h5 := h4.step (balloc _ (.cells #[.slice A3 n3 c3] 27))
  refine bodyPost_ret (v := .agg #[.slice A3 n3 c3]) (by simp [results, Tryd.results10, go_sem, y0]) rfl ?_
  exact ⟨_, rfl, h5, bstep (k3.setCell (p := ⟨w.heap.size, 0, none⟩) (Nat.le_refl _) (.slice A3 n3 c3)) (balloc _ _)⟩
theorem is_walk {A : Option Addr} {n c na ca N : Nat} {Aa : Option Addr} {us : List UInt8} {w : World} (h : NatIs w w.heap.size (.agg #[.slice Aa na ca]) N) (r : Rd w w.heap.size A n us) (hn : n ≤ 4000) (hc : n ≤ c) (hc2 : c ≤ 9223372036854775807) (hN : N = leN us) :
    Calls Tryd.prog 15 #[.agg #[.slice Aa na ca], .slice A n c] w fun e w' => e = .returned (.bool true) ∧ Below w.heap.size w w' := by
  have b0 := balloc w (.cells #[.slice Aa na ca] 27)
  have T := text_any (h.step b0)
  rw [hN] at T
  have Hr := Lib.hid r
  clear h hN r
  go_enter Tryd.func15, Tryd.ntmps15
  go_wp2_with fail
  refine T.mono ?_
  rintro e w1 ⟨rfl, b1⟩
  have k1 := bstep b0 b1
  have r1 := Hr.out.step k1
  have C := trim_any r1 hc hc2
  clear T b0 b1
  go_wp2_with fail
  refine C.mono ?_
  rintro e w' ⟨⟨m, rfl, hm, _, hle⟩, rfl⟩
  have T := reftext_any (c := c) (r1.part_take hm) (Nat.le_refl _) (by omega)
  rw [hle] at T
  have htl := bs_toList (hexT (leN us))
  clear C r1 hle
  generalize hexT (leN us) = t at *
  go_wp2_with fail
  refine T.mono ?_
  rintro e w2 ⟨rfl, b2⟩
  have k2 := bstep k1 b2
  clear T b2
  go_wp2_with fail
  go_ret
  exact ⟨rfl, k2⟩
theorem is_any {A : Option Addr} {n c N : Nat} {v : Value} {us : List UInt8} {w : World} (h : NatIs w w.heap.size v N) (r : Rd w w.heap.size A n us) (hn : n ≤ 4000) (hc : n ≤ c) (hc2 : c ≤ 9223372036854775807) (hN : N = leN us) :
    Calls Tryd.prog 15 #[v, .slice A n c] w fun e w' => e = .returned (.bool true) ∧ Below w.heap.size w w' := by
  obtain ⟨Aa, na, ca, rfl, h⟩ := h.open_
  exact is_walk h r hn hc hc2 hN
end Go.Proofs.YthfbgcjfnpajjaaDoor
