import Derived.Test.YthfbgcjfnpajjaaDoorNatD
import Derived.Lib.Mul64
/- nat.times, and what is below 0 of nat.Sub. -/
namespace Go.Proofs.YthfbgcjfnpajjaaDoor
open Go.RowKit
set_option linter.unusedVariables false
set_option maxRecDepth 100000

theorem sub_err {N M : Nat} {v u : Value} {w : World} (h : NatIs w w.heap.size v N) (h2 : NatIs w w.heap.size u M) (hlt : N < M) :
    Calls Tryd.prog 22 #[v, u] w (GivesErr 2 w) := by
  obtain ⟨A, n, c, ws, rfl, w1⟩ := h
  obtain ⟨A2, n2, c2, ws2, rfl, y1⟩ := h2
  have hN : NatIs w w.heap.size (.agg #[.slice A n c]) N := ⟨A, n, c, ws, rfl, w1⟩
  have hM : NatIs w w.heap.size (.agg #[.slice A2 n2 c2]) M := ⟨A2, n2, c2, ws2, rfl, y1⟩
  have hABR := bstep (bstep (balloc w (.cells #[.slice A n c] 27)) (balloc _ (.cells #[.slice A2 n2 c2] 27))) (balloc _ (.cells #[.slice none 0 0] 27))
  have gR := Blk.new ((w.alloc (.cells #[.slice A n c] 27)).alloc (.cells #[.slice A2 n2 c2] 27)) 27 #[.slice none 0 0]
  have hC := cmp_any (hN.step hABR) (hM.step hABR)
  rw [cmpN_lt hlt] at hC
  simp only [World.size_alloc] at gR
  have HGR := Lib.hid gR
  clear hN hM gR w1 y1 hlt
  go_enter Tryd.func22, Tryd.ntmps22
  go_wp2_with fail
  refine hC.mono ?_
  rintro e w1 ⟨rfl, b1⟩
  have k1 := bstep hABR b1
  have gR := HGR.out.below b1 HGR.out.lt
  have hsz := gR.lt
  obtain ⟨z0, z1⟩ := blk_cell gR
  clear hC hABR HGR b1
  go_wp2_with fail
  have hR3 := blk_one (y := .slice none 0 0) gR
  obtain ⟨y0, y1⟩ := blk_cell hR3
  refine bodyPost_ret (v := .tuple #[.agg #[.slice none 0 0], .int .i64 2]) (by simp [results, Tryd.results22, go_sem, y0]) rfl ?_
  exact ⟨rfl, k1.setCell (by simp; omega) _⟩
theorem sub_any {N M : Nat} {v u : Value} {w : World} (h : NatIs w w.heap.size v N) (h2 : NatIs w w.heap.size u M) (hle : M ≤ N) :
    Calls Tryd.prog 22 #[v, u] w (GivesPair (N - M) w) := by
  obtain ⟨A, n, c, ws, rfl, w1, w2, rfl, w4⟩ := h
  obtain ⟨A2, n2, c2, ws2, rfl, y1, y2, rfl, y4⟩ := h2
  exact sub_walk w1 y1 w2 y2 w4 y4 hle
/-! ### bits.Mul64 -/
theorem uv_mask {a : Nat} (h : a < 18446744073709551616) : bits .and .u64 (uv a) 4294967295 = uv (a % 4294967296) := by
  have := u64_and_nat a 4294967295 h (by omega)
  rw [show (((4294967295 : Nat)) : Int) = 4294967295 from rfl] at this
  unfold uv
  rw [this, show (4294967295 : Nat) = 2 ^ 32 - 1 from rfl, Nat.and_two_pow_sub_one_eq_mod]
theorem uv_half (a : Nat) : uv a / 4294967296 = uv (a / 4294967296) := by unfold uv; omega
theorem uv_mul {a b : Nat} (h : a * b < 18446744073709551616) : IntKind.u64.wrap (uv a * uv b) = uv (a * b) := by
  unfold uv
  rw [← Int.natCast_mul, IntKind.wrap_u64]
  omega
theorem uv_mulm (a b : Nat) : IntKind.u64.wrap (uv a * uv b) = uv (a * b % W64) := by
  unfold uv W64
  rw [← Int.natCast_mul, IntKind.wrap_u64]
  omega
theorem uv_add {a b : Nat} (h : a + b < 18446744073709551616) : IntKind.u64.wrap (uv a + uv b) = uv (a + b) := by
  unfold uv
  rw [IntKind.wrap_u64]
  omega
set_option maxHeartbeats 1000000 in
theorem mul64_any (x y : Nat) (hx : x < 18446744073709551616) (hy : y < 18446744073709551616) (w : World) : Calls Tryd.prog 48 #[.int .u64 (uv x), .int .u64 (uv y)] w fun e w' => e = .returned (.tuple #[.int .u64 (uv (x * y / W64)), .int .u64 (uv (x * y % W64))]) ∧ w = w' := by
  obtain ⟨h1, h2, h3, h4⟩ := Lib.mul64_hi x y hx hy
  have ha := Lib.half_mul_le (a := x / 4294967296) (b := y / 4294967296) (by omega) (by omega)
  have hb := Lib.half_mul_le (a := x / 4294967296) (b := y % 4294967296) (by omega) (by omega)
  have hc := Lib.half_mul_le (a := x % 4294967296) (b := y / 4294967296) (by omega) (by omega)
  have hd := Lib.half_mul_le (a := x % 4294967296) (b := y % 4294967296) (by omega) (by omega)
  have e0 := uv_mask hx
  have e1 := uv_half x
  have e2 := uv_mask hy
  have e3 := uv_half y
  have m0 := uv_mulm x y
  have m1 := uv_mul (a := x % 4294967296) (b := y % 4294967296) (by omega)
  have m2 := uv_mul (a := x / 4294967296) (b := y % 4294967296) (by omega)
  have m3 := uv_mul (a := x % 4294967296) (b := y / 4294967296) (by omega)
  have m4 := uv_mul (a := x / 4294967296) (b := y / 4294967296) (by omega)
  have hW := Lib.hid (show x * y / W64 = x * y / 18446744073709551616 from rfl)
  generalize x * y % W64 = lo at *
  rw [hW.out, ← h4]
  clear hW h4
  generalize x % 4294967296 = x0 at *
  generalize x / 4294967296 = x1 at *
  generalize y % 4294967296 = y0 at *
  generalize y / 4294967296 = y1 at *
  generalize x0 * y0 = w0 at *
  generalize x1 * y0 = p1 at *
  generalize x0 * y1 = p2 at *
  generalize x1 * y1 = p3 at *
  have f0 := uv_half w0
  have a0 := uv_add h2
  have g0 := uv_mask h2
  have g1 := uv_half (p1 + w0 / 4294967296)
  have a1 := uv_add h3
  have hall : p3 + (p1 + w0 / 4294967296) / 4294967296 < 18446744073709551616 := by omega
  have a2 := uv_add hall
  generalize p1 + w0 / 4294967296 = t at *
  have g2 := uv_half (t % 4294967296 + p2)
  have a3 := uv_add (show p3 + t / 4294967296 + (t % 4294967296 + p2) / 4294967296 < 18446744073709551616 by omega)
  clear h1 h2 h3 ha hb hc hd hall hx hy
  go_enter Tryd.func48, Tryd.ntmps48
  go_wp2_with fail
  go_ret2
  exact ⟨rfl, rfl⟩
end Go.Proofs.YthfbgcjfnpajjaaDoor
