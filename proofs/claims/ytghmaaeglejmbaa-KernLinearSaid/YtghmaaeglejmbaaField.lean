import Derived.Test.YtghmaaeglejmbaaWords
/- What the functions of package field, and the document's own answer for them, come to. -/
namespace Go.Proofs.Ytghmaaeglejmbaa
open Go.RowKit
set_option linter.unusedVariables false
set_option maxRecDepth 100000
attribute [local go_sem] bits_xor_b bits_and1_b

theorem twice_any (a : UInt8) (w : World) : Calls Try.prog 37 #[.int .u8 (bv a)] w fun e w' => e = .returned (.int .u8 (bv (xt a))) ∧ w = w' := by
  go_enter Try.func37, Try.ntmps37
  go_wp2
  · rename_i h
    go_ret
    exact ⟨ret_int (xt_hi h), rfl⟩
  · rename_i h
    go_ret
    exact ⟨ret_int (xt_lo h), rfl⟩

theorem gmTo_succ_t {a b : UInt8} {k : Nat} (h : bit b k = true) : gmTo a b k ^^^ xts k a = gmTo a b (k + 1) := by simp [gmTo, h]
theorem gmTo_succ_f {a b : UInt8} {k : Nat} (h : bit b k = false) : gmTo a b k = gmTo a b (k + 1) := by simp [gmTo, h]
theorem times_any (a b : UInt8) (w : World) : Calls Try.prog 35 #[.int .u8 (bv a), .int .u8 (bv b)] w fun e w' => e = .returned (.int .u8 (bv (gm a b))) ∧ w = w' := by
  go_enter Try.func35, Try.ntmps35
  go_wp2
  go_loop [0, 5, 7] (fun x p i => ∃ k : Nat, k ≤ 8 ∧ i = .int .i64 k ∧ x = .int .u8 (bv (xts k a)) ∧ p = .int .u8 (bv (gmTo a b k))) (fun _ _ i => 8 - (intOf i).toNat)
  case atStart => exact ⟨0, by omega, rfl, rfl, rfl⟩
  case round =>
    obtain ⟨k, hk, rfl, rfl, rfl⟩ := hrel
    by_cases hlt : k < 8
    · cases hb : bit b k
      · have Hb := Lib.hid (gmTo_succ_f (a := a) hb)
        go_wp2_with (go_at_call 37; refine (twice_any _ _).mono ?_; rintro e w' ⟨rfl, rfl⟩)
        go_round
        case rel => exact ⟨k + 1, by omega, by go_num, rfl, by rw [Hb.out]⟩
        case measure => simp [intOf]; omega
      · have Hb := Lib.hid (gmTo_succ_t (a := a) hb)
        go_wp2_with (go_at_call 37; refine (twice_any _ _).mono ?_; rintro e w' ⟨rfl, rfl⟩)
        go_round
        case rel => exact ⟨k + 1, by omega, by go_num, rfl, by rw [Hb.out]⟩
        case measure => simp [intOf]; omega
    · obtain rfl : k = 8 := by omega
      go_wp2
      go_ret
      exact ⟨rfl, rfl⟩

/-- The product of bytes, from the first on. -/
def gprod (us : List UInt8) : UInt8 := us.foldl gm 1
theorem gprod_take (us : List UInt8) (k : Nat) (h : k < us.length) : gprod (us.take (k + 1)) = gm (gprod (us.take k)) (us[k]?.getD 0) := by
  unfold gprod
  rw [List.take_succ_eq_append_getElem h, List.foldl_append]
  simp [h]
def gsum (us : List UInt8) : UInt8 := us.foldl (· ^^^ ·) 0
theorem gsum_take (us : List UInt8) (k : Nat) (h : k < us.length) : gsum (us.take (k + 1)) = gsum (us.take k) ^^^ us[k]?.getD 0 := by
  unfold gsum
  rw [List.take_succ_eq_append_getElem h, List.foldl_append]
  simp [h]

theorem mul_any {B : Nat} {A : Option Addr} {n c : Nat} {us : List UInt8} {w : World} (h : Rd w B A n us) (hn : n ≤ 9223372036854775807) :
    Calls Try.prog 13 #[.slice A n c] w fun e w' => e = .returned (.int .u8 (bv (gprod us))) ∧ w = w' := by
  go_enter Try.func13, Try.ntmps13
  go_wp2
  go_loop [3, 8] (fun p i => ∃ k : Nat, k ≤ n ∧ i = .int .i64 k ∧ p = .int .u8 (bv (gprod (us.take k)))) (fun _ i => n - (intOf i).toNat)
  case atStart => exact ⟨0, by omega, rfl, rfl⟩
  case round =>
    obtain ⟨k, hk, rfl, rfl⟩ := hrel
    by_cases hlt : k < n
    · have Hp := Lib.hid (gprod_take us k (by have := h.1; omega))
      obtain ⟨b, off, rfl, _, hc⟩ := h.at_ hlt
      go_wp2_with (go_at_call 35; refine (times_any _ _ _).mono ?_; rintro e w' ⟨rfl, rfl⟩)
      go_round
      case rel => exact ⟨k + 1, by omega, by go_num, by rw [Hp.out]⟩
      case measure => simp [intOf]; omega
    · obtain rfl : k = n := by omega
      have Hl := Lib.hid h.1
      go_wp2
      go_ret
      exact ⟨ret_int (by rw [List.take_of_length_le (by rw [Hl.out]; omega)]), rfl⟩
theorem add_any {B : Nat} {A : Option Addr} {n c : Nat} {us : List UInt8} {w : World} (h : Rd w B A n us) (hn : n ≤ 9223372036854775807) :
    Calls Try.prog 12 #[.slice A n c] w fun e w' => e = .returned (.int .u8 (bv (gsum us))) ∧ w = w' := by
  go_enter Try.func12, Try.ntmps12
  go_wp2
  go_loop [3, 8] (fun p i => ∃ k : Nat, k ≤ n ∧ i = .int .i64 k ∧ p = .int .u8 (bv (gsum (us.take k)))) (fun _ i => n - (intOf i).toNat)
  case atStart => exact ⟨0, by omega, rfl, rfl⟩
  case round =>
    obtain ⟨k, hk, rfl, rfl⟩ := hrel
    by_cases hlt : k < n
    · have Hp := Lib.hid (gsum_take us k (by have := h.1; omega))
      obtain ⟨b, off, rfl, _, hc⟩ := h.at_ hlt
      go_wp2
      go_round
      case rel => exact ⟨k + 1, by omega, by go_num, by rw [Hp.out]⟩
      case measure => simp [intOf]; omega
    · obtain rfl : k = n := by omega
      have Hl := Lib.hid h.1
      go_wp2
      go_ret
      exact ⟨ret_int (by rw [List.take_of_length_le (by rw [Hl.out]; omega)]), rfl⟩

/-! ### remainder, power, Inv, Div, Pow, Exp, Log -/
theorem remainder_any (n : Int) (w : World) (h1 : -9223372036854775808 ≤ n) (h2 : n ≤ 9223372036854775807) :
    Calls Try.prog 38 #[.int .i64 n] w fun e w' => e = .returned (.int .i64 (n % 255)) ∧ w = w' := by
  have h3 : -255 < n.tmod 255 ∧ n.tmod 255 < 255 := ⟨Int.lt_tmod_of_pos n (by omega), Int.tmod_lt_of_pos n (by omega)⟩
  obtain ⟨h4, h5⟩ := h3
  go_enter Try.func38, Try.ntmps38
  go_wp2
  go_ret
  refine ⟨ret_int ?_, rfl⟩
  have h6 := Int.mul_tdiv_add_tmod n 255
  simp
  omega

theorem and1_i64 (m : Nat) (h : m ≤ 9223372036854775807) : bits .and .i64 (m : Int) 1 = ((m % 2 : Nat) : Int) := by
  have two63 : (2 : Int) ^ 63 = 9223372036854775808 := by decide
  have h := bits_mask .i64 63 (by decide) (fun n h0 h1 => by rw [two63] at h1; rw [IntKind.wrap_i64]; omega) 1 (by decide) (m : Int) (by omega) (by rw [two63]; omega)
  have e : ((2 : Int) ^ 1 - 1) = 1 := by decide
  rw [e] at h
  rw [h]
  omega
theorem pow_step_t {a x v : UInt8} {n m : Nat} (he : gm v (gpow x m) = gpow a n) (h : m % 2 = 1) : gm (gm v x) (gpow (gm x x) (m / 2)) = gpow a n := by
  rw [← he, gpow_half x m, if_pos h, gm_assoc]
theorem pow_step_f {a x v : UInt8} {n m : Nat} (he : gm v (gpow x m) = gpow a n) (h : ¬ m % 2 = 1) : gm v (gpow (gm x x) (m / 2)) = gpow a n := by
  rw [← he, gpow_half x m, if_neg h]
theorem power_any (a : UInt8) (n : Nat) (w : World) (hn : n ≤ 9223372036854775807) :
    Calls Try.prog 36 #[.int .u8 (bv a), .int .i64 (n : Int)] w fun e w' => e = .returned (.int .u8 (bv (gpow a n))) ∧ w = w' := by
  go_enter Try.func36, Try.ntmps36
  go_wp2
  go_loop [0, 5, 1] (fun x p i => ∃ m : Nat, ∃ u v : UInt8, m ≤ n ∧ i = .int .i64 m ∧ x = .int .u8 (bv u) ∧ p = .int .u8 (bv v) ∧ gm v (gpow u m) = gpow a n) (fun _ _ i => (intOf i).toNat)
  case atStart => exact ⟨n, a, 1, by omega, rfl, rfl, rfl, gm_one_left _⟩
  case round =>
    obtain ⟨m, u, v, hm, rfl, rfl, rfl, he⟩ := hrel
    have He := Lib.hid he
    clear he
    by_cases h0 : 0 < m
    · by_cases h1 : m % 2 = 1
      · have hb : bits .and .i64 (m : Int) 1 = 1 := by rw [and1_i64 m (by omega), h1]; rfl
        have Hs := Lib.hid (pow_step_t He.out h1)
        clear h1
        go_wp2_with fail
        refine (times_any _ _ _).mono ?_
        rintro e w' ⟨rfl, rfl⟩
        go_wp2_with fail
        refine (times_any _ _ _).mono ?_
        rintro e w' ⟨rfl, rfl⟩
        go_wp2_with fail
        go_round
        case rel => exact ⟨m / 2, _, _, by omega, by go_num, rfl, rfl, Hs.out⟩
        case measure => simp [intOf]; omega
      · have hb : bits .and .i64 (m : Int) 1 = 0 := by rw [and1_i64 m (by omega), show m % 2 = 0 by omega]; rfl
        have Hs := Lib.hid (pow_step_f He.out h1)
        clear h1
        go_wp2_with fail
        refine (times_any _ _ _).mono ?_
        rintro e w' ⟨rfl, rfl⟩
        go_wp2_with fail
        go_round
        case rel => exact ⟨m / 2, _, _, by omega, by go_num, rfl, rfl, Hs.out⟩
        case measure => simp [intOf]; omega
    · obtain rfl : m = 0 := by omega
      go_wp2
      go_ret
      exact ⟨ret_int (by rw [← He.out]; simp [gpow, gm_one_right]), rfl⟩

theorem bv_ne {a : UInt8} (h : a ≠ 0) : (bv a == 0) = false := by
  rw [show (0 : Int) = bv 0 from rfl, bv_beq]; simpa using h
theorem bv_ne' {a : UInt8} (h : a ≠ 0) : (bv a != 0) = true := by
  rw [show (0 : Int) = bv 0 from rfl, bv_bne]; simpa using h
theorem inv_zero (w : World) : Calls Try.prog 14 #[.int .u8 0] w fun e w' => e = .returned (.tuple #[.int .u8 0, .int .i64 3]) ∧ w = w' := by
  go_enter Try.func14, Try.ntmps14
  go_wp2
  go_ret2
  exact ⟨rfl, rfl⟩
theorem inv_some (a : UInt8) (h : a ≠ 0) (w : World) : Calls Try.prog 14 #[.int .u8 (bv a)] w fun e w' => e = .returned (.tuple #[.int .u8 (bv (ginv a)), .int .i64 0]) ∧ w = w' := by
  have h0 := bv_ne h
  go_enter Try.func14, Try.ntmps14
  go_wp2_with fail
  refine (power_any a 254 w (by omega)).mono ?_
  rintro e w' ⟨rfl, rfl⟩
  go_wp2_with fail
  go_ret2
  exact ⟨rfl, rfl⟩
theorem div_zero (a : UInt8) (w : World) : Calls Try.prog 15 #[.int .u8 (bv a), .int .u8 0] w fun e w' => e = .returned (.tuple #[.int .u8 0, .int .i64 3]) ∧ w = w' := by
  go_enter Try.func15, Try.ntmps15
  go_wp2_with fail
  refine (inv_zero w).mono ?_
  rintro e w' ⟨rfl, rfl⟩
  go_wp2_with fail
  go_ret2
  exact ⟨rfl, rfl⟩
theorem div_some (a b : UInt8) (h : b ≠ 0) (w : World) : Calls Try.prog 15 #[.int .u8 (bv a), .int .u8 (bv b)] w fun e w' => e = .returned (.tuple #[.int .u8 (bv (gm a (ginv b))), .int .i64 0]) ∧ w = w' := by
  go_enter Try.func15, Try.ntmps15
  go_wp2_with fail
  refine (inv_some b h w).mono ?_
  rintro e w' ⟨rfl, rfl⟩
  go_wp2_with fail
  refine (times_any _ _ w).mono ?_
  rintro e w' ⟨rfl, rfl⟩
  go_wp2_with fail
  go_ret2
  exact ⟨rfl, rfl⟩
/-- A power of any exponent. -/
def gpowz (a : UInt8) (n : Int) : UInt8 := if a = 0 then (if n = 0 then 1 else 0) else gpow a (n % 255).toNat
theorem exp_any (n : Int) (w : World) (h1 : -9223372036854775808 ≤ n) (h2 : n ≤ 9223372036854775807) :
    Calls Try.prog 17 #[.int .i64 n] w fun e w' => e = .returned (.int .u8 (bv (gpow 2 (n % 255).toNat))) ∧ w = w' := by
  obtain ⟨m, hm⟩ := Int.eq_ofNat_of_zero_le (show 0 ≤ n % 255 by omega)
  have hm' : m ≤ 254 := by omega
  have C := remainder_any n w h1 h2
  rw [hm] at C ⊢
  clear hm
  go_enter Try.func17, Try.ntmps17
  go_wp2_with fail
  refine C.mono ?_
  rintro e w' ⟨rfl, rfl⟩
  go_wp2_with fail
  refine (power_any 2 m w (by omega)).mono ?_
  rintro e w' ⟨rfl, rfl⟩
  go_wp2_with fail
  go_ret
  exact ⟨rfl, rfl⟩
theorem pow_some (a : UInt8) (h : a ≠ 0) (n : Int) (w : World) (h1 : -9223372036854775808 ≤ n) (h2 : n ≤ 9223372036854775807) :
    Calls Try.prog 20 #[.int .u8 (bv a), .int .i64 n] w fun e w' => e = .returned (.tuple #[.int .u8 (bv (gpow a (n % 255).toNat)), .int .i64 0]) ∧ w = w' := by
  obtain ⟨m, hm⟩ := Int.eq_ofNat_of_zero_le (show 0 ≤ n % 255 by omega)
  have hm' : m ≤ 254 := by omega
  have C := remainder_any n w h1 h2
  rw [hm] at C ⊢
  clear hm
  have h0 := bv_ne' h
  go_enter Try.func20, Try.ntmps20
  go_wp2_with fail
  refine C.mono ?_
  rintro e w' ⟨rfl, rfl⟩
  go_wp2_with fail
  refine (power_any a m w (by omega)).mono ?_
  rintro e w' ⟨rfl, rfl⟩
  go_wp2_with fail
  go_ret2
  exact ⟨rfl, rfl⟩
theorem pow_zero_up (n : Int) (w : World) (h1 : 0 < n) :
    Calls Try.prog 20 #[.int .u8 0, .int .i64 n] w fun e w' => e = .returned (.tuple #[.int .u8 0, .int .i64 0]) ∧ w = w' := by
  have h0 : (n == 0) = false := by simp; omega
  have h3 : ¬ n < 0 := by omega
  go_enter Try.func20, Try.ntmps20
  go_wp2_with fail
  go_ret2
  exact ⟨rfl, rfl⟩
theorem pow_zero_zero (w : World) :
    Calls Try.prog 20 #[.int .u8 0, .int .i64 0] w fun e w' => e = .returned (.tuple #[.int .u8 1, .int .i64 0]) ∧ w = w' := by
  go_enter Try.func20, Try.ntmps20
  go_wp2_with fail
  go_ret2
  exact ⟨rfl, rfl⟩
theorem pow_zero_down (n : Int) (w : World) (h1 : n < 0) :
    Calls Try.prog 20 #[.int .u8 0, .int .i64 n] w fun e w' => e = .returned (.tuple #[.int .u8 0, .int .i64 3]) ∧ w = w' := by
  go_enter Try.func20, Try.ntmps20
  go_wp2_with fail
  go_ret2
  exact ⟨rfl, rfl⟩
theorem not_before_succ {a : UInt8} {k : Nat} (h : ∀ i, i < k → pows i ≠ a) (h1 : pows k ≠ a) : ∀ i, i < k + 1 → pows i ≠ a := by
  intro i hi
  by_cases e : i = k
  · subst e; exact h1
  · exact h i (by omega)
theorem log_some (a : UInt8) (h : a ≠ 0) (w : World) :
    Calls Try.prog 16 #[.int .u8 (bv a)] w fun e w' => ∃ n : Nat, e = .returned (.tuple #[.int .i64 (n : Int), .int .i64 0]) ∧ n < 255 ∧ pows n = a ∧ w = w' := by
  obtain ⟨j, hj, hja⟩ := log_exists h
  have Hj := Lib.hid hja
  clear hja
  go_enter Try.func16, Try.ntmps16
  go_wp2
  go_loop [4, 6] (fun b i => ∃ k : Nat, k ≤ 255 ∧ i = .int .i64 k ∧ b = .int .u8 (bv (pows k)) ∧ Hid (∀ i, i < k → pows i ≠ a)) (fun _ i => 255 - (intOf i).toNat)
  case atStart => exact ⟨0, by omega, rfl, rfl, Lib.hid fun i hi => by omega⟩
  case round =>
    obtain ⟨k, hk, rfl, rfl, Hb⟩ := hrel
    by_cases hlt : k < 255
    · by_cases he : pows k = a
      · have ht : (bv a == bv (pows k)) = true := by rw [bv_beq, he]; simp
        have He := Lib.hid he
        clear he
        go_wp2_with fail
        go_ret2
        exact ⟨k, rfl, hlt, He.out, rfl⟩
      · have ht : (bv a == bv (pows k)) = false := by rw [bv_beq]; simpa using fun e => he e.symm
        have Hb' := Lib.hid (not_before_succ Hb.out he)
        clear he
        go_wp2_with fail
        refine (twice_any _ _).mono ?_
        rintro e w' ⟨rfl, rfl⟩
        go_wp2_with fail
        go_round
        case rel => exact ⟨k + 1, by omega, by go_num, rfl, Hb'⟩
        case measure => simp [intOf]; omega
    · exact absurd Hj.out (Hb.out j (by omega))
theorem log_zero (w : World) :
    Calls Try.prog 16 #[.int .u8 0] w fun e w' => e = .returned (.tuple #[.int .i64 0, .int .i64 3]) ∧ w = w' := by
  go_enter Try.func16, Try.ntmps16
  go_wp2
  go_loop [4, 6] (fun b i => ∃ k : Nat, k ≤ 255 ∧ i = .int .i64 k ∧ b = .int .u8 (bv (pows k))) (fun _ i => 255 - (intOf i).toNat)
  case atStart => exact ⟨0, by omega, rfl, rfl⟩
  case round =>
    obtain ⟨k, hk, rfl, rfl⟩ := hrel
    by_cases hlt : k < 255
    · have ht : (0 == bv (pows k)) = false := by
        rw [show (0 : Int) = bv 0 from rfl, bv_beq]; simpa using fun e => pows_ne k e.symm
      go_wp2_with fail
      refine (twice_any _ _).mono ?_
      rintro e w' ⟨rfl, rfl⟩
      go_wp2_with fail
      go_round
      case rel => exact ⟨k + 1, by omega, by go_num, rfl⟩
      case measure => simp [intOf]; omega
    · obtain rfl : k = 255 := by omega
      go_wp2_with fail
      go_ret2
      exact ⟨rfl, rfl⟩

/-! ### The document's answer for layer 1 -/
theorem clTo_succ_t {a b : UInt8} {k : Nat} (h : bit b k = true) (hk : k < 8) : bits .xor .u64 (clTo a b k : Int) (IntKind.u64.wrap (bv a * 2 ^ k)) = (clTo a b (k + 1) : Int) := by
  have h1 := clTo_lt a b k
  have h2 : (2 : Nat) ^ (8 + k) ≤ 2 ^ 15 := Nat.pow_le_pow_right (by omega) (by omega)
  have h3 : (2 : Nat) ^ k ≤ 2 ^ 7 := Nat.pow_le_pow_right (by omega) (by omega)
  have h4 : a.toNat * 2 ^ k ≤ 255 * 2 ^ 7 := Nat.mul_le_mul (by have := a.toNat_lt; omega) h3
  have e : bv a * 2 ^ k = ((a.toNat * 2 ^ k : Nat) : Int) := by simp [bv]
  rw [e, IntKind.wrap_u64, Int.emod_eq_of_lt (by omega) (by omega), u64_xor_nat _ _ (by omega) (by omega)]
  simp [clTo, h]
theorem clTo_succ_f {a b : UInt8} {k : Nat} (h : bit b k = false) : clTo a b k = clTo a b (k + 1) := by simp [clTo, h]
theorem nat_tmod (s k : Nat) : ((s : Int) / 2 ^ k).tmod 2 = if s.testBit k then 1 else 0 := by
  have e : ((s : Int) / 2 ^ k) = ((s / 2 ^ k : Nat) : Int) := by simp
  have h2 : s / 2 ^ k % 2 < 2 := Nat.mod_lt _ (by omega)
  rw [e, Int.tmod_eq_emod_of_nonneg (Int.natCast_nonneg _), Nat.testBit_eq_decide_div_mod_eq]
  by_cases h : s / 2 ^ k % 2 = 1
  · simp [h]; omega
  · simp [h]; omega
theorem bit_tmod (b : UInt8) (k : Nat) : (bv b / 2 ^ k).tmod 2 = if bit b k then 1 else 0 := nat_tmod b.toNat k
theorem redTo_succ_t {s j : Nat} (h : (redTo s j).testBit (14 - j) = true) (hs : s < 65536) (hj : j < 7) : bits .xor .u64 (redTo s j : Int) (IntKind.u64.wrap (285 * 2 ^ (14 - j - 8))) = (redTo s (j + 1) : Int) := by
  have h1 := redTo_lt s hs j (by omega)
  have h3 : (2 : Nat) ^ (14 - j - 8) ≤ 2 ^ 6 := Nat.pow_le_pow_right (by omega) (by omega)
  have e : (285 : Int) * 2 ^ (14 - j - 8) = ((285 * 2 ^ (14 - j - 8) : Nat) : Int) := by simp
  rw [e, IntKind.wrap_u64, Int.emod_eq_of_lt (by omega) (by omega), u64_xor_nat _ _ (by omega) (by omega)]
  simp only [redTo, h, if_true]
  rw [show 14 - j - 8 = 6 - j by omega]
theorem redTo_succ_f {s j : Nat} (h : (redTo s j).testBit (14 - j) = false) : redTo s j = redTo s (j + 1) := by simp [redTo, h]
theorem byte_of_nat (s : Nat) : ((s : Int) % 256) = bv (UInt8.ofNat s) := by
  unfold bv; rw [UInt8.toNat_ofNat']; simp
theorem refmul_any (a b : UInt8) (w : World) : Calls Try.prog 11 #[.int .u8 (bv a), .int .u8 (bv b)] w fun e w' => e = .returned (.int .u8 (bv (gm a b))) ∧ w = w' := by
  have Hm : Hid (UInt8.ofNat (redTo (clTo a b 8) 7) = gm a b) := Lib.hid (refm_eq a b)
  have h1 := bv_lt a
  have h2 := bv_nn a
  have h3 := bv_nn b
  have h4 := bv_lt b
  have hs : clTo a b 8 < 65536 := clTo_lt a b 8
  go_enter Try.func11, Try.ntmps11
  go_wp2
  go_loop [5, 6] (fun p i => ∃ k : Nat, k ≤ 8 ∧ i = .int .i64 k ∧ p = .int .u64 (clTo a b k : Int)) (fun _ i => 8 - (intOf i).toNat)
  case atStart => exact ⟨0, by omega, rfl, rfl⟩
  case round =>
    obtain ⟨k, hk, rfl, rfl⟩ := hrel
    by_cases h0 : k < 8
    · cases hb : bit b k
      · have hm : (bv b / 2 ^ k).tmod 2 = 0 := by rw [bit_tmod, hb]; rfl
        have Hs := Lib.hid (clTo_succ_f (a := a) hb)
        clear hb
        go_wp2_with fail
        go_round
        case rel => exact ⟨k + 1, by omega, by go_num, by rw [Hs.out]⟩
        case measure => simp [intOf]; omega
      · have hm : (bv b / 2 ^ k).tmod 2 = 1 := by rw [bit_tmod, hb]; rfl
        have Hs := Lib.hid (clTo_succ_t (a := a) hb h0)
        clear hb
        go_wp2_with fail
        go_round
        case rel => exact ⟨k + 1, by omega, by go_num, by rw [Hs.out]⟩
        case measure => simp [intOf]; omega
    · obtain rfl : k = 8 := by omega
      go_wp2_with fail
      generalize clTo a b 8 = s at *
      go_loop [5, 7] (fun p i => ∃ j : Nat, j ≤ 7 ∧ i = .int .i64 (14 - (j : Int)) ∧ p = .int .u64 (redTo s j : Int)) (fun _ i => (intOf i).toNat)
      case atStart => exact ⟨0, by omega, rfl, rfl⟩
      case round =>
        obtain ⟨j, hj, rfl, rfl⟩ := hrel
        by_cases h5 : j < 7
        · cases hb : (redTo s j).testBit (14 - j)
          · have hm : ((redTo s j : Int) / 2 ^ (14 - j)).tmod 2 = 0 := by rw [nat_tmod, hb]; rfl
            have Hs := Lib.hid (redTo_succ_f hb)
            clear hb
            go_wp2_with fail
            go_round
            case rel => exact ⟨j + 1, by omega, int_eq (by omega), by rw [Hs.out]⟩
            case measure => simp [intOf]; omega
          · have hm : ((redTo s j : Int) / 2 ^ (14 - j)).tmod 2 = 1 := by rw [nat_tmod, hb]; rfl
            have Hs := Lib.hid (redTo_succ_t hb hs h5)
            clear hb
            go_wp2_with fail
            go_round
            case rel => exact ⟨j + 1, by omega, int_eq (by omega), by rw [Hs.out]⟩
            case measure => simp [intOf]; omega
        · obtain rfl : j = 7 := by omega
          go_wp2_with fail
          go_ret
          refine ⟨ret_int ?_, rfl⟩
          rw [← Hm.out, ← byte_of_nat]

theorem refpow_any (a : UInt8) (n : Nat) (w : World) (hn : n ≤ 18446744073709551615) :
    Calls Try.prog 21 #[.int .u8 (bv a), .int .u64 (n : Int)] w fun e w' => e = .returned (.int .u8 (bv (gpow a n))) ∧ w = w' := by
  go_enter Try.func21, Try.ntmps21
  go_wp2
  go_loop [0, 5, 1] (fun x p i => ∃ m : Nat, ∃ u v : UInt8, m ≤ n ∧ i = .int .u64 m ∧ x = .int .u8 (bv u) ∧ p = .int .u8 (bv v) ∧ gm v (gpow u m) = gpow a n) (fun _ _ i => (intOf i).toNat)
  case atStart => exact ⟨n, a, 1, by omega, rfl, rfl, rfl, gm_one_left _⟩
  case round =>
    obtain ⟨m, u, v, hm, rfl, rfl, rfl, he⟩ := hrel
    have He := Lib.hid he
    clear he
    by_cases h0 : 0 < m
    · by_cases h1 : m % 2 = 1
      · have hb : (m : Int) % 2 = 1 := by omega
        have Hs := Lib.hid (pow_step_t He.out h1)
        clear h1
        go_wp2_with fail
        refine (refmul_any _ _ _).mono ?_
        rintro e w' ⟨rfl, rfl⟩
        go_wp2_with fail
        refine (refmul_any _ _ _).mono ?_
        rintro e w' ⟨rfl, rfl⟩
        go_wp2_with fail
        go_round
        case rel => exact ⟨m / 2, _, _, by omega, by go_num, rfl, rfl, Hs.out⟩
        case measure => simp [intOf]; omega
      · have hb : (m : Int) % 2 = 0 := by omega
        have Hs := Lib.hid (pow_step_f He.out h1)
        clear h1
        go_wp2_with fail
        refine (refmul_any _ _ _).mono ?_
        rintro e w' ⟨rfl, rfl⟩
        go_wp2_with fail
        go_round
        case rel => exact ⟨m / 2, _, _, by omega, by go_num, rfl, rfl, Hs.out⟩
        case measure => simp [intOf]; omega
    · obtain rfl : m = 0 := by omega
      go_wp2
      go_ret
      exact ⟨ret_int (by rw [← He.out]; simp [gpow, gm_one_right]), rfl⟩
theorem refexp_any (n : Int) (w : World) (h1 : -9223372036854775808 ≤ n) (h2 : n ≤ 9223372036854775807) :
    Calls Try.prog 18 #[.int .i64 n] w fun e w' => e = .returned (.int .u8 (bv (gpow 2 (n % 255).toNat))) ∧ w = w' := by
  obtain ⟨m, hm⟩ := Int.eq_ofNat_of_zero_le (show 0 ≤ n % 255 by omega)
  have hm' : m ≤ 254 := by omega
  have h3 : -255 < n.tmod 255 ∧ n.tmod 255 < 255 := ⟨Int.lt_tmod_of_pos n (by omega), Int.tmod_lt_of_pos n (by omega)⟩
  obtain ⟨h4, h5⟩ := h3
  have h6 := Int.mul_tdiv_add_tmod n 255
  rw [hm, Int.toNat_natCast]
  by_cases hneg : n.tmod 255 < 0
  · have e : n.tmod 255 = (m : Int) - 255 := by omega
    have e2 : ((m : Int) - 255 < 0) := by omega
    have E := e
    clear h6 hm
    rw [e] at hneg h4 h5
    go_enter Try.func18, Try.ntmps18
    go_wp2_with fail
    refine (refpow_any 2 m w (by omega)).mono ?_
    rintro e w' ⟨rfl, rfl⟩
    go_wp2_with fail
    go_ret
    exact ⟨rfl, rfl⟩
  · have e : n.tmod 255 = (m : Int) := by omega
    clear h6 hm
    go_enter Try.func18, Try.ntmps18
    go_wp2_with fail
    refine (refpow_any 2 m w (by omega)).mono ?_
    rintro e w' ⟨rfl, rfl⟩
    go_wp2_with fail
    go_ret
    exact ⟨rfl, rfl⟩
theorem refmul_nat (a : UInt8) (k : Nat) (hk : k < 256) (w : World) : Calls Try.prog 11 #[.int .u8 (bv a), .int .u8 (k : Int)] w fun e w' => e = .returned (.int .u8 (bv (gm a (UInt8.ofNat k)))) ∧ w = w' := by
  rw [← bv_ofNat k hk]
  exact refmul_any _ _ _
theorem refinv_some (a : UInt8) (h : a ≠ 0) (w : World) : Calls Try.prog 19 #[.int .u8 (bv a)] w fun e w' => e = .returned (.int .u8 (bv (ginv a))) ∧ w = w' := by
  have Hg := Lib.hid (gm_ginv h)
  have hlt := (ginv a).toNat_lt
  have hne : (ginv a).toNat ≠ 0 := fun e => ginv_ne h (UInt8.toNat_inj.1 e)
  go_enter Try.func19, Try.ntmps19
  go_wp2
  go_loop [3] (fun i => ∃ k : Nat, 1 ≤ k ∧ k ≤ (ginv a).toNat ∧ i = .int .i64 k) (fun i => 256 - (intOf i).toNat)
  case atStart => exact ⟨1, by omega, by omega, rfl⟩
  case round =>
    obtain ⟨k, hk, hk2, rfl⟩ := hrel
    have hk3 : k < 256 := by omega
    have hk4 : (k : Int) < 256 := by omega
    by_cases he : k = (ginv a).toNat
    · have hg : gm a (UInt8.ofNat k) = 1 := by rw [he, UInt8.ofNat_toNat]; exact Hg.out
      have ht : (bv (gm a (UInt8.ofNat k)) == 1) = true := by rw [hg]; rfl
      have Hk : Hid (UInt8.ofNat k = ginv a) := Lib.hid (by rw [he, UInt8.ofNat_toNat])
      clear hg he
      go_wp2_with fail
      refine (refmul_nat a k hk3 _).mono ?_
      rintro e w' ⟨rfl, rfl⟩
      go_wp2_with fail
      go_ret
      exact ⟨ret_int (by rw [← Hk.out, bv_ofNat k hk3]), rfl⟩
    · have hg : gm a (UInt8.ofNat k) ≠ 1 := fun e => by
        have := congrArg UInt8.toNat (ginv_unique e)
        rw [UInt8.toNat_ofNat_of_lt' (by simpa using hk3)] at this
        exact he this
      have ht : (bv (gm a (UInt8.ofNat k)) == 1) = false := by rw [show (1 : Int) = bv 1 from rfl, bv_beq]; simpa using hg
      clear hg
      go_wp2_with fail
      refine (refmul_nat a k hk3 _).mono ?_
      rintro e w' ⟨rfl, rfl⟩
      go_wp2_with fail
      go_round
      case rel => exact ⟨k + 1, by omega, by omega, by go_num⟩
      case measure => simp [intOf]; omega

/-! ### Calls of Add and Mul with a slice that was just built -/
theorem rd2 {w : World} {g : Nat} {a b : UInt8} (h0 : w.cell? ⟨g, 0, none⟩ = some (.int .u8 (bv a))) (h1 : w.cell? ⟨g, 1, none⟩ = some (.int .u8 (bv b))) : Rd w (g + 1) (some ⟨g, 0, none⟩) 2 [a, b] := by
  refine ⟨rfl, fun _ => ⟨g, 0, rfl, by omega, fun i u hi => ?_⟩⟩
  match i, hi with
  | 0, hi => simp at hi; subst hi; simpa using h0
  | 1, hi => simp at hi; subst hi; simpa using h1
theorem rd3 {w : World} {g : Nat} {a b c : UInt8} (h0 : w.cell? ⟨g, 0, none⟩ = some (.int .u8 (bv a))) (h1 : w.cell? ⟨g, 1, none⟩ = some (.int .u8 (bv b))) (h2 : w.cell? ⟨g, 2, none⟩ = some (.int .u8 (bv c))) : Rd w (g + 1) (some ⟨g, 0, none⟩) 3 [a, b, c] := by
  refine ⟨rfl, fun _ => ⟨g, 0, rfl, by omega, fun i u hi => ?_⟩⟩
  match i, hi with
  | 0, hi => simp at hi; subst hi; simpa using h0
  | 1, hi => simp at hi; subst hi; simpa using h1
  | 2, hi => simp at hi; subst hi; simpa using h2
theorem mul2 {w : World} {g c : Nat} (a b : UInt8) (h0 : w.cell? ⟨g, 0, none⟩ = some (.int .u8 (bv a))) (h1 : w.cell? ⟨g, 1, none⟩ = some (.int .u8 (bv b))) :
    Calls Try.prog 13 #[.slice (some ⟨g, 0, none⟩) 2 c] w fun e w' => e = .returned (.int .u8 (bv (gm a b))) ∧ w = w' := by
  have h := mul_any (c := c) (rd2 h0 h1) (by omega)
  rwa [show gprod [a, b] = gm a b by simp [gprod, gm_one_left]] at h
theorem mul2_one {w : World} {g c : Nat} (a : UInt8) (h0 : w.cell? ⟨g, 0, none⟩ = some (.int .u8 (bv a))) (h1 : w.cell? ⟨g, 1, none⟩ = some (.int .u8 1)) :
    Calls Try.prog 13 #[.slice (some ⟨g, 0, none⟩) 2 c] w fun e w' => e = .returned (.int .u8 (bv a)) ∧ w = w' := by
  have h := mul2 (c := c) a 1 h0 h1
  rwa [gm_one_right] at h
theorem mul2_zero {w : World} {g c : Nat} (a : UInt8) (h0 : w.cell? ⟨g, 0, none⟩ = some (.int .u8 (bv a))) (h1 : w.cell? ⟨g, 1, none⟩ = some (.int .u8 0)) :
    Calls Try.prog 13 #[.slice (some ⟨g, 0, none⟩) 2 c] w fun e w' => e = .returned (.int .u8 0) ∧ w = w' := by
  have h := mul2 (c := c) a 0 h0 h1
  rwa [gm_zero_right] at h
theorem mul3 {w : World} {g c : Nat} (a b d : UInt8) (h0 : w.cell? ⟨g, 0, none⟩ = some (.int .u8 (bv a))) (h1 : w.cell? ⟨g, 1, none⟩ = some (.int .u8 (bv b))) (h2 : w.cell? ⟨g, 2, none⟩ = some (.int .u8 (bv d))) :
    Calls Try.prog 13 #[.slice (some ⟨g, 0, none⟩) 3 c] w fun e w' => e = .returned (.int .u8 (bv (gm (gm a b) d))) ∧ w = w' := by
  have h := mul_any (c := c) (rd3 h0 h1 h2) (by omega)
  rwa [show gprod [a, b, d] = gm (gm a b) d by simp [gprod, gm_one_left]] at h
theorem add2 {w : World} {g c : Nat} (a b : UInt8) (h0 : w.cell? ⟨g, 0, none⟩ = some (.int .u8 (bv a))) (h1 : w.cell? ⟨g, 1, none⟩ = some (.int .u8 (bv b))) :
    Calls Try.prog 12 #[.slice (some ⟨g, 0, none⟩) 2 c] w fun e w' => e = .returned (.int .u8 (bv (a ^^^ b))) ∧ w = w' := by
  have h := add_any (c := c) (rd2 h0 h1) (by omega)
  rwa [show gsum [a, b] = a ^^^ b by simp [gsum]] at h
theorem add2_eq {w : World} {g c : Nat} {a b d : UInt8} (e : a ^^^ b = d) (h0 : w.cell? ⟨g, 0, none⟩ = some (.int .u8 (bv a))) (h1 : w.cell? ⟨g, 1, none⟩ = some (.int .u8 (bv b))) :
    Calls Try.prog 12 #[.slice (some ⟨g, 0, none⟩) 2 c] w fun e w' => e = .returned (.int .u8 (bv d)) ∧ w = w' := by
  have h := add2 (c := c) a b h0 h1
  rwa [e] at h
theorem add2_zero {w : World} {g c : Nat} (a : UInt8) (h0 : w.cell? ⟨g, 0, none⟩ = some (.int .u8 (bv a))) (h1 : w.cell? ⟨g, 1, none⟩ = some (.int .u8 0)) :
    Calls Try.prog 12 #[.slice (some ⟨g, 0, none⟩) 2 c] w fun e w' => e = .returned (.int .u8 (bv a)) ∧ w = w' := by
  have h := add2 (c := c) a 0 h0 h1
  rwa [UInt8.xor_zero] at h
theorem add2_self {w : World} {g c : Nat} (a : UInt8) (h0 : w.cell? ⟨g, 0, none⟩ = some (.int .u8 (bv a))) (h1 : w.cell? ⟨g, 1, none⟩ = some (.int .u8 (bv a))) :
    Calls Try.prog 12 #[.slice (some ⟨g, 0, none⟩) 2 c] w fun e w' => e = .returned (.int .u8 0) ∧ w = w' := by
  have h := add2 (c := c) a a h0 h1
  rwa [UInt8.xor_self] at h
end Go.Proofs.Ytghmaaeglejmbaa
