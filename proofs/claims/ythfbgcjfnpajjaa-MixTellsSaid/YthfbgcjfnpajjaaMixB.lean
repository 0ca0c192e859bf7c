import Derived.Test.YthfbgcjfnpajjaaMix
/- What the document's own answer for package mix, and the rest of the package, come to. -/
namespace Go.Proofs.Ythfbgcjfnpajjaa
open Go.RowKit
set_option linter.unusedVariables false
set_option maxRecDepth 100000

theorem shifted_any (z k : Nat) (hz : z < 18446744073709551616) (hk : k ≤ 64) (w : World) : Calls Try.prog 20 #[.int .u64 (uv z), .int .i64 k] w fun e w' => e = .returned (.int .u64 (uv (xs k z))) ∧ w = w' := by
  have Hz := Lib.hid hz
  have e : Hid (bits .xor .u64 (uv z) (uv (z / 2 ^ k)) = uv (xs k z)) := Lib.hid (by rw [← bits_xs k hz]; congr 1)
  go_enter Try.func20, Try.ntmps20
  go_wp2
  go_loop [5, 6] (fun x i => ∃ j : Nat, j ≤ k ∧ i = .int .i64 j ∧ x = .int .u64 (uv (z / 2 ^ j))) (fun _ i => k - (intOf i).toNat)
  case atStart => exact ⟨0, by omega, rfl, by simp⟩
  case round =>
    obtain ⟨j, hj, rfl, rfl⟩ := hrel
    by_cases hlt : j < k
    · have hq := Nat.lt_of_le_of_lt (Nat.div_le_self z (2 ^ j)) Hz.out
      have Hs := Lib.hid (show z / 2 ^ (j + 1) = z / 2 ^ j / 2 by rw [Nat.pow_succ, Nat.div_div_eq_div_mul])
      generalize z / 2 ^ j = q at *
      have q0 := uv_nn q
      have q1 := uv_le hq
      clear hq hz
      go_wp2_with fail
      go_round
      case rel => exact ⟨j + 1, by omega, by go_num, by rw [Hs.out]; first | (simp [uv]; done) | (simp only [uv, IntKind.wrap_u64]; go_num) | (unfold uv; go_num)⟩
      case measure => simp [intOf]; omega
    · obtain rfl : j = k := by omega
      go_wp2_with fail
      go_ret
      exact ⟨ret_int e.out, rfl⟩
theorem refnext_any (s : Nat) (w : World) : Calls Try.prog 11 #[.int .u64 (uv s)] w fun e w' => e = .returned (.tuple #[.int .u64 (uv (st s 1)), .int .u64 (uv (stir (st s 1)))]) ∧ w = w' := by
  have e1 := wrap_st s
  have hl := Lib.hid (st_lt s 1)
  have hs : Hid (stir (st s 1) = xs 31 (m2 (xs 27 (m1 (xs 30 (st s 1)))))) := Lib.hid rfl
  generalize stir (st s 1) = r at *
  generalize st s 1 = z at *
  have e2 := wrap_m1 (xs 30 z)
  have e3 := wrap_m2 (xs 27 (m1 (xs 30 z)))
  have a1 := Lib.hid (m1_lt (xs 30 z))
  have a2 := Lib.hid (m2_lt (xs 27 (m1 (xs 30 z))))
  go_enter Try.func11, Try.ntmps11
  go_wp2_with fail
  refine (shifted_any z 30 hl.out (by omega) _).mono ?_
  rintro e w' ⟨rfl, rfl⟩
  go_wp2_with fail
  refine (shifted_any _ 27 a1.out (by omega) _).mono ?_
  rintro e w' ⟨rfl, rfl⟩
  go_wp2_with fail
  refine (shifted_any _ 31 a2.out (by omega) _).mono ?_
  rintro e w' ⟨rfl, rfl⟩
  go_wp2_with fail
  go_ret2
  exact ⟨by rw [hs.out]; rfl, rfl⟩
/-- How long a slice is. -/
def slen : Value → Nat
  | .slice _ n _ => n
  | _ => 0
/-- Of the bytes that come of a state, so many, once 8 k + i places were gone through. -/
def soFar (n k i : Nat) : Nat := min n (8 * k + i)
set_option maxHeartbeats 1000000 in
theorem refbytes_any (s n : Nat) (hn : n ≤ 65536) (hs : s < 18446744073709551616) (w : World) : Calls Try.prog 13 #[.int .u64 (uv s), .int .i64 n] w fun e w' => ∃ A c, e = .returned (.tuple #[.int .u64 (uv (st s ((n + 7) / 8))), .slice A n c]) ∧ Rd w' w'.heap.size A n (mixL s n) ∧ Below w.heap.size w w' := by
  have h0 : Hid (st s 0 = s) := Lib.hid (st_zero hs)
  clear hs
  go_enter Try.func13, Try.ntmps13
  go_wp2
  go_loopw [0, 6] (fun z v wr => ∃ k m : Nat, 8 * k < n + 8 ∧ z = .int .u64 (uv (st s k)) ∧ m = soFar n k 0 ∧ wr.ownsRow w.heap.size 5 1 v m (bvs (mixL s m)) ∧ Below w.heap.size w wr) (fun _ v _ => n - slen v)
  case atStart => exact ⟨0, 0, by omega, by rw [h0.out], by simp [soFar], World.ownsRow_nil _ _ _ _, Below.refl _ _⟩
  case round =>
    obtain ⟨k, m, hk, rfl, hm, ho, hb⟩ := hrel
    by_cases hlt : 8 * k < n
    · obtain rfl : m = 8 * k := by unfold soFar at hm; omega
      obtain ⟨A0, c0, rfl, r0⟩ := Rd.of_own ho
      clear hm
      have hxl := Lib.hid (stir_lt (st_lt s (k + 1)))
      have hnx := refnext_any (st s k) wr
      rw [st_st] at hnx
      have Ho := Lib.hid ho
      clear ho r0
      go_wp2_with fail
      refine hnx.mono ?_
      rintro e w' ⟨rfl, rfl⟩
      clear hnx
      go_wp2_with fail
      go_loopw [6, 8, 9] (fun v x c wq => ∃ i m : Nat, i ≤ 8 ∧ c = .int .i64 i ∧ x = .int .u64 (uv (stir (st s (k + 1)) / 256 ^ i)) ∧ m = soFar n k i ∧ wq.ownsRow w.heap.size 5 1 v m (bvs (mixL s m)) ∧ Below w.heap.size w wq) (fun _ _ c _ => 8 - (intOf c).toNat)
      case atStart => exact ⟨0, 8 * k, by omega, rfl, by simp, by unfold soFar; omega, Ho.out, hb⟩
      case round =>
        clear Ho hb
        obtain ⟨i, m, hi, rfl, rfl, hm, ho, hb⟩ := hrel
        by_cases hi8 : i < 8
        · have hq : stir (st s (k + 1)) / 256 ^ i < 18446744073709551616 := Nat.lt_of_le_of_lt (Nat.div_le_self _ _) hxl.out
          have Hs := Lib.hid (show stir (st s (k + 1)) / 256 ^ (i + 1) = stir (st s (k + 1)) / 256 ^ i / 256 by rw [Nat.pow_succ, Nat.div_div_eq_div_mul])
          have hmn : m ≤ n := by unfold soFar at hm; omega
          have hz := hb.size
          obtain ⟨A0, c0, rfl, r0⟩ := Rd.of_own ho
          by_cases hmlt : m < n
          · have hm2 : m = 8 * k + i := by unfold soFar at hm; omega
            have Hm := Lib.hid (show m + 1 = soFar n k (i + 1) by unfold soFar; omega)
            have hub := uv_byte s m (stir (st s (k + 1)) / 256 ^ i) (by rw [show m / 8 + 1 = k + 1 by omega, show m % 8 = i by omega])
            have Hms := Lib.hid (mixL_succ s m)
            clear hm hm2
            generalize stir (st s (k + 1)) / 256 ^ i = q at *
            have q0 := uv_nn q
            have q1 := uv_le hq
            have b0 := bv_nn (bt s m)
            have b1 := bv_lt (bt s m)
            clear hq
            go_wp2_with (at_builtin; (refine push_byte rfl (.tmp 28) (.tmp 32) rfl w.heap.size _ m _ (bt s m) rfl (ho.alloc _) _ 1 rfl ?c1 ?c2 ?c3 ?_))
            case c1 => go_simp
            case c2 => omega
            case c3 => simp; omega
            intro v1 w1 hown1 hb1
            rw [← Hms.out] at hown1
            go_wp2_with fail
            go_roundw
            case rel => exact ⟨i + 1, m + 1, by omega, by go_num, by rw [Hs.out]; simp [uv], Hm.out, hown1, (hb.alloc hz _).trans hb1⟩
            case measure => simp [intOf]; omega
          · have Hm := Lib.hid (show m = soFar n k (i + 1) by unfold soFar at *; omega)
            clear hm
            generalize stir (st s (k + 1)) / 256 ^ i = q at *
            have q0 := uv_nn q
            have q1 := uv_le hq
            clear hq
            have Ho := Lib.hid ho
            clear ho
            go_wp2_with fail
            go_roundw
            case rel => exact ⟨i + 1, m, by omega, by go_num, by rw [Hs.out]; simp [uv], Hm.out, Ho.out, hb⟩
            case measure => simp [intOf]; omega
        · obtain rfl : i = 8 := by omega
          have hm2 : m = soFar n (k + 1) 0 := by rw [hm]; unfold soFar; omega
          have Hm := Lib.hid hm2
          have hlt2 := Lib.hid (show 8 * k < m by rw [hm]; unfold soFar; omega)
          clear hm hm2
          obtain ⟨A0, c0, rfl, r0⟩ := Rd.of_own ho
          have Ho := Lib.hid ho
          clear ho r0
          go_wp2_with fail
          go_roundw
          case rel => exact ⟨k + 1, m, by omega, rfl, Hm.out, Ho.out, hb⟩
          case measure => have := hlt2.out; simp [slen]; omega
    · obtain rfl : m = n := by unfold soFar at hm; omega
      have hke := Lib.hid (show k = (m + 7) / 8 by unfold soFar at hm; omega)
      clear hm
      obtain ⟨A0, c0, rfl, r0⟩ := Rd.of_own ho
      have Hr := Lib.hid r0
      clear ho r0
      go_wp2_with fail
      go_ret2
      exact ⟨A0, c0, by rw [← hke.out]; rfl, Hr.out, hb⟩
theorem row_any (s n : Nat) (hn : n ≤ 65536) (w : World) (hs : s < 18446744073709551616) : Calls Try.prog 15 #[.int .u64 (uv s), .int .i64 n] w fun e w' => ∃ k, e = .returned (.tuple #[.slice (some ⟨k, 0, none⟩) n n, .int .i64 0]) ∧ Blk w' k 5 (bvs (mixL s n)).toArray ∧ w.heap.size ≤ k ∧ Below w.heap.size w w' := by
  have Hn := Lib.hid hn
  have Hs := Lib.hid hs
  clear hn hs
  go_enter Try.func15, Try.ntmps15
  go_wp2_with fail
  refine (new_any s _).mono ?_
  rintro e w1 ⟨g, rfl, h1, h2, h3⟩
  go_wp2_with fail
  refine (bytes_any g s n Hn.out _ Hs.out h1).mono ?_
  rintro e w2 ⟨k, rfl, k1, k2, _, k3⟩
  have K1 := Lib.hid k1
  have hz := h3.size
  clear k1
  go_wp2_with fail
  go_ret2
  exact ⟨k, rfl, K1.out, by omega, h3.trans (grown_below k3 hz h2)⟩
/-! ### Seeds as bytes -/
theorem awake5 (w : World) : Calls Try.prog 7 #[] w fun e w' => e = .returned (.bool true) ∧ Below w.heap.size w w' := by
  have N0 := fun w => new_any 0 w
  have R0 := fun w => row_any 0 1 (by omega) w (by decide)
  have u0 : uv 0 = 0 := rfl
  rw [u0] at R0
  have N0 := fun w => new_any 0 w
  rw [u0] at N0
  go_enter Try.func7, Try.ntmps7
  go_wp2_with fail
  refine (N0 _).mono ?_
  rintro e w1 ⟨g, rfl, h1, h2, h3⟩
  go_wp2_with fail
  refine (R0 _).mono ?_
  rintro e w2 ⟨k, rfl, k1, k2, k3⟩
  have g2 := h1.step k3
  have hkg : k ≠ g := by have := h1.lt; omega
  go_wp2_with fail
  have hN := next_any g 0 w2 g2
  have hx : uv (stir (st 0 1)) = 16294208416658607535 := by kernel_rfl
  rw [hx] at hN
  have hc : w2.cell? ⟨k, 0, none⟩ = some (.int .u8 175) := by
    rw [k1.cell 0]
    kernel_rfl
  have hb2 := h3.trans (k3.mono h3.size)
  clear hx k1 h3 k3
  refine hN.mono ?_
  rintro e w3 ⟨rfl, n1, n2⟩
  have hc3 := n2.cell hc (by simpa using hkg)
  have hb3 := hb2.trans (grown_below n2 hb2.size h2)
  clear hN hc hb2 n1 n2
  go_wp2_with fail
  go_ret
  exact ⟨rfl, hb3⟩
end Go.Proofs.Ythfbgcjfnpajjaa
