import Derived.Test.YthfbgcjfnpajjaaDoorChecked
import Derived.Lib.Strings
import Derived.Lib.Slices
import Derived.Lib.Small
import Derived.Lib.Walk
import Derived.Lib.BitFns
/- math/bits.Len64: how many bits a number needs. (A text of its own: the walk meets the library's table only where few rules of reckoning are at hand.) -/
namespace Go.Proofs.YthfbgcjfnpajjaaDoor
/-- A table's entry for what is left, and what was shifted away. -/
theorem len_of (z y : Int) (k : Nat) (h0 : 0 ≤ z) (h1 : z ≤ 18446744073709551615) (hy : y = ((z.toNat / 2 ^ k : Nat) : Int)) (h8 : y ≤ 255) (hk : k = 0 ∨ 2 ^ k ≤ z.toNat) : ∃ m : Nat, Lib.len8 y = (m : Int) ∧ m ≤ 8 ∧ k + m = Lib.bitLen z.toNat := by
  have hy0 : 0 ≤ y := by rw [hy]; exact Int.natCast_nonneg _
  refine ⟨Lib.bitLen y.toNat, Lib.len8_of y hy0 h8, Lib.bitLen_le8' y hy0 h8, ?_⟩
  rw [hy, Int.toNat_natCast]
  rcases hk with rfl | hk
  · simp
  · rw [Lib.bitLen_shift k z.toNat hk (by omega)]
set_option maxRecDepth 100000 in
set_option maxHeartbeats 4000000 in
theorem len64_any (z : Int) (h0 : 0 ≤ z) (h1 : z ≤ 18446744073709551615) (w : World) : Calls Tryd.prog 32 #[.int .u64 z] w fun e w' => e = .returned (.int .i64 (Lib.bitLen z.toNat : Int)) ∧ w = w' := by
  go_enter Tryd.func32, Tryd.ntmps32
  go_wp2
  all_goals (go_ret; refine ⟨congrArg Ending.returned (congrArg (Value.int IntKind.i64) ?_), rfl⟩)
  all_goals first
    | (obtain ⟨m, e, hm, hz⟩ := len_of z (z / 4294967296 / 65536 / 256 % 256) 56 h0 h1 (by omega) (by omega) (.inr (by omega)); rw [e]; omega)
    | (obtain ⟨m, e, hm, hz⟩ := len_of z (z / 4294967296 / 65536 % 256) 48 h0 h1 (by omega) (by omega) (.inr (by omega)); rw [e]; omega)
    | (obtain ⟨m, e, hm, hz⟩ := len_of z (z / 4294967296 / 256 % 256) 40 h0 h1 (by omega) (by omega) (.inr (by omega)); rw [e]; omega)
    | (obtain ⟨m, e, hm, hz⟩ := len_of z (z / 4294967296 % 256) 32 h0 h1 (by omega) (by omega) (.inr (by omega)); rw [e]; omega)
    | (obtain ⟨m, e, hm, hz⟩ := len_of z (z / 65536 / 256 % 256) 24 h0 h1 (by omega) (by omega) (.inr (by omega)); rw [e]; omega)
    | (obtain ⟨m, e, hm, hz⟩ := len_of z (z / 65536 % 256) 16 h0 h1 (by omega) (by omega) (.inr (by omega)); rw [e]; omega)
    | (obtain ⟨m, e, hm, hz⟩ := len_of z (z / 256 % 256) 8 h0 h1 (by omega) (by omega) (.inr (by omega)); rw [e]; omega)
    | (obtain ⟨m, e, hm, hz⟩ := len_of z (z % 256) 0 h0 h1 (by omega) (by omega) (.inl rfl); rw [e]; omega)
theorem len64_nat (x : Nat) (hx : x < 18446744073709551616) (w : World) : Calls Tryd.prog 32 #[.int .u64 (x : Int)] w fun e w' => e = .returned (.int .i64 (Lib.bitLen x : Int)) ∧ w = w' := len64_any x (by omega) (by omega) w
end Go.Proofs.YthfbgcjfnpajjaaDoor
