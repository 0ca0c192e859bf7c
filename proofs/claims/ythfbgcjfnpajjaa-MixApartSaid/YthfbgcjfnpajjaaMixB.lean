import Derived.Test.YthfbgcjfnpajjaaMix
/- What the document's own answer for package mix, and the rest of the package, come to. -/
namespace Go.Proofs.Ythfbgcjfnpajjaa
open Go.RowKit
set_option linter.unusedVariables false
set_option maxRecDepth 100000

theorem row_any (s n : Nat) (hn : n ≤ 65536) (w : World) (hs : s < 18446744073709551616) : Calls Try.prog 15 #[.int .u64 (uv s), .int .i64 n] w fun e w' => ∃ k, e = .returned (.tuple #[.slice (some ⟨k, 0, none⟩) n n, .int .i64 0]) ∧ Blk w' k 5 (bvs (mixL s n)).toArray ∧ w.heap.size ≤ k ∧ Below w.heap.size w w' := by
  have Hn := Lib.hid hn
  have Hs := Lib.hid hs
  clear hn hs
  go_enter Try.func15, Try.ntmps15
  go_wp2_with fail
  refine (new_any s _).mono ?_
  rintro e w1 ⟨g, rfl, h1, h2, h3⟩
  go_wp2_with fail
  refine (bytes_any g s n Hn.out _ Hs.out h1).mono ?_
  rintro e w2 ⟨k, rfl, k1, k2, _, k3⟩
  have K1 := Lib.hid k1
  have hz := h3.size
  clear k1
  go_wp2_with fail
  go_ret2
  exact ⟨k, rfl, K1.out, by omega, h3.trans (grown_below k3 hz h2)⟩
/-! ### Seeds as bytes -/
theorem awake5 (w : World) : Calls Try.prog 7 #[] w fun e w' => e = .returned (.bool true) ∧ Below w.heap.size w w' := by
  have N0 := fun w => new_any 0 w
  have R0 := fun w => row_any 0 1 (by omega) w (by decide)
  have u0 : uv 0 = 0 := rfl
  rw [u0] at R0
  have N0 := fun w => new_any 0 w
  rw [u0] at N0
  go_enter Try.func7, Try.ntmps7
  go_wp2_with fail
  refine (N0 _).mono ?_
  rintro e w1 ⟨g, rfl, h1, h2, h3⟩
  go_wp2_with fail
  refine (R0 _).mono ?_
  rintro e w2 ⟨k, rfl, k1, k2, k3⟩
  have g2 := h1.step k3
  have hkg : k ≠ g := by have := h1.lt; omega
  go_wp2_with fail
  have hN := next_any g 0 w2 g2
  have hx : uv (stir (st 0 1)) = 16294208416658607535 := by kernel_rfl
  rw [hx] at hN
  have hc : w2.cell? ⟨k, 0, none⟩ = some (.int .u8 175) := by
    rw [k1.cell 0]
    kernel_rfl
  have hb2 := h3.trans (k3.mono h3.size)
  clear hx k1 h3 k3
  refine hN.mono ?_
  rintro e w3 ⟨rfl, n1, n2⟩
  have hc3 := n2.cell hc (by simpa using hkg)
  have hb3 := hb2.trans (grown_below n2 hb2.size h2)
  clear hN hc hb2 n1 n2
  go_wp2_with fail
  go_ret
  exact ⟨rfl, hb3⟩
end Go.Proofs.Ythfbgcjfnpajjaa
