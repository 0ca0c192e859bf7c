import Derived.Test.YtaidbcppecoenaaWords
/- What the functions of package field, and the document's own answer for them, come to. -/
namespace Go.Proofs.Ytaidbcppecoenaa
open Go.RowKit
set_option linter.unusedVariables false
set_option maxRecDepth 100000
attribute [local go_sem] bits_xor_b bits_and1_b
theorem twice_any (a : UInt8) (w : World) : Calls Try.prog 111 #[.int .u8 (bv a)] w fun e w' => e = .returned (.int .u8 (bv (xt a))) ∧ w = w' := by
  go_enter Try.func111, Try.ntmps111
  go_wp2
  · rename_i h
    go_ret
    exact ⟨ret_int (xt_hi h), rfl⟩
  · rename_i h
    go_ret
    exact ⟨ret_int (xt_lo h), rfl⟩

theorem gmTo_succ_t {a b : UInt8} {k : Nat} (h : bit b k = true) : gmTo a b k ^^^ xts k a = gmTo a b (k + 1) := by simp [gmTo, h]
theorem gmTo_succ_f {a b : UInt8} {k : Nat} (h : bit b k = false) : gmTo a b k = gmTo a b (k + 1) := by simp [gmTo, h]
theorem times_any (a b : UInt8) (w : World) : Calls Try.prog 109 #[.int .u8 (bv a), .int .u8 (bv b)] w fun e w' => e = .returned (.int .u8 (bv (gm a b))) ∧ w = w' := by
  go_enter Try.func109, Try.ntmps109
  go_wp2
  go_loop [0, 5, 7] (fun x p i => ∃ k : Nat, k ≤ 8 ∧ i = .int .i64 k ∧ x = .int .u8 (bv (xts k a)) ∧ p = .int .u8 (bv (gmTo a b k))) (fun _ _ i => 8 - (intOf i).toNat)
  case atStart => exact ⟨0, by omega, rfl, rfl, rfl⟩
  case round =>
    obtain ⟨k, hk, rfl, rfl, rfl⟩ := hrel
    by_cases hlt : k < 8
    · cases hb : bit b k
      · have Hb := Lib.hid (gmTo_succ_f (a := a) hb)
        go_wp2_with (go_at_call 111; refine (twice_any _ _).mono ?_; rintro e w' ⟨rfl, rfl⟩)
        go_round
        case rel => exact ⟨k + 1, by omega, by go_num, rfl, by rw [Hb.out]⟩
        case measure => simp [intOf]; omega
      · have Hb := Lib.hid (gmTo_succ_t (a := a) hb)
        go_wp2_with (go_at_call 111; refine (twice_any _ _).mono ?_; rintro e w' ⟨rfl, rfl⟩)
        go_round
        case rel => exact ⟨k + 1, by omega, by go_num, rfl, by rw [Hb.out]⟩
        case measure => simp [intOf]; omega
    · obtain rfl : k = 8 := by omega
      go_wp2
      go_ret
      exact ⟨rfl, rfl⟩

/-- The product of bytes, from the first on. -/
def gprod (us : List UInt8) : UInt8 := us.foldl gm 1
theorem gprod_take (us : List UInt8) (k : Nat) (h : k < us.length) : gprod (us.take (k + 1)) = gm (gprod (us.take k)) (us[k]?.getD 0) := by
  unfold gprod
  rw [List.take_succ_eq_append_getElem h, List.foldl_append]
  simp [h]
def gsum (us : List UInt8) : UInt8 := us.foldl (· ^^^ ·) 0
theorem gsum_take (us : List UInt8) (k : Nat) (h : k < us.length) : gsum (us.take (k + 1)) = gsum (us.take k) ^^^ us[k]?.getD 0 := by
  unfold gsum
  rw [List.take_succ_eq_append_getElem h, List.foldl_append]
  simp [h]

theorem mul_any {B : Nat} {A : Option Addr} {n c : Nat} {us : List UInt8} {w : World} (h : Rd w B A n us) (hn : n ≤ 9223372036854775807) :
    Calls Try.prog 105 #[.slice A n c] w fun e w' => e = .returned (.int .u8 (bv (gprod us))) ∧ w = w' := by
  go_enter Try.func105, Try.ntmps105
  go_wp2
  go_loop [3, 8] (fun p i => ∃ k : Nat, k ≤ n ∧ i = .int .i64 k ∧ p = .int .u8 (bv (gprod (us.take k)))) (fun _ i => n - (intOf i).toNat)
  case atStart => exact ⟨0, by omega, rfl, rfl⟩
  case round =>
    obtain ⟨k, hk, rfl, rfl⟩ := hrel
    by_cases hlt : k < n
    · have Hp := Lib.hid (gprod_take us k (by have := h.1; omega))
      obtain ⟨b, off, rfl, _, hc⟩ := h.at_ hlt
      go_wp2_with (go_at_call 109; refine (times_any _ _ _).mono ?_; rintro e w' ⟨rfl, rfl⟩)
      go_round
      case rel => exact ⟨k + 1, by omega, by go_num, by rw [Hp.out]⟩
      case measure => simp [intOf]; omega
    · obtain rfl : k = n := by omega
      have Hl := Lib.hid h.1
      go_wp2
      go_ret
      exact ⟨ret_int (by rw [List.take_of_length_le (by rw [Hl.out]; omega)]), rfl⟩
theorem add_any {B : Nat} {A : Option Addr} {n c : Nat} {us : List UInt8} {w : World} (h : Rd w B A n us) (hn : n ≤ 9223372036854775807) :
    Calls Try.prog 106 #[.slice A n c] w fun e w' => e = .returned (.int .u8 (bv (gsum us))) ∧ w = w' := by
  go_enter Try.func106, Try.ntmps106
  go_wp2
  go_loop [3, 8] (fun p i => ∃ k : Nat, k ≤ n ∧ i = .int .i64 k ∧ p = .int .u8 (bv (gsum (us.take k)))) (fun _ i => n - (intOf i).toNat)
  case atStart => exact ⟨0, by omega, rfl, rfl⟩
  case round =>
    obtain ⟨k, hk, rfl, rfl⟩ := hrel
    by_cases hlt : k < n
    · have Hp := Lib.hid (gsum_take us k (by have := h.1; omega))
      obtain ⟨b, off, rfl, _, hc⟩ := h.at_ hlt
      go_wp2
      go_round
      case rel => exact ⟨k + 1, by omega, by go_num, by rw [Hp.out]⟩
      case measure => simp [intOf]; omega
    · obtain rfl : k = n := by omega
      have Hl := Lib.hid h.1
      go_wp2
      go_ret
      exact ⟨ret_int (by rw [List.take_of_length_le (by rw [Hl.out]; omega)]), rfl⟩

/-! ### remainder, power, Inv, Div, Pow, Exp, Log -/
theorem and1_i64 (m : Nat) (h : m ≤ 9223372036854775807) : bits .and .i64 (m : Int) 1 = ((m % 2 : Nat) : Int) := by
  have two63 : (2 : Int) ^ 63 = 9223372036854775808 := by decide
  have h := bits_mask .i64 63 (by decide) (fun n h0 h1 => by rw [two63] at h1; rw [IntKind.wrap_i64]; omega) 1 (by decide) (m : Int) (by omega) (by rw [two63]; omega)
  have e : ((2 : Int) ^ 1 - 1) = 1 := by decide
  rw [e] at h
  rw [h]
  omega
theorem pow_step_t {a x v : UInt8} {n m : Nat} (he : gm v (gpow x m) = gpow a n) (h : m % 2 = 1) : gm (gm v x) (gpow (gm x x) (m / 2)) = gpow a n := by
  rw [← he, gpow_half x m, if_pos h, gm_assoc]
theorem pow_step_f {a x v : UInt8} {n m : Nat} (he : gm v (gpow x m) = gpow a n) (h : ¬ m % 2 = 1) : gm v (gpow (gm x x) (m / 2)) = gpow a n := by
  rw [← he, gpow_half x m, if_neg h]
theorem power_any (a : UInt8) (n : Nat) (w : World) (hn : n ≤ 9223372036854775807) :
    Calls Try.prog 104 #[.int .u8 (bv a), .int .i64 (n : Int)] w fun e w' => e = .returned (.int .u8 (bv (gpow a n))) ∧ w = w' := by
  go_enter Try.func104, Try.ntmps104
  go_wp2
  go_loop [0, 5, 1] (fun x p i => ∃ m : Nat, ∃ u v : UInt8, m ≤ n ∧ i = .int .i64 m ∧ x = .int .u8 (bv u) ∧ p = .int .u8 (bv v) ∧ gm v (gpow u m) = gpow a n) (fun _ _ i => (intOf i).toNat)
  case atStart => exact ⟨n, a, 1, by omega, rfl, rfl, rfl, gm_one_left _⟩
  case round =>
    obtain ⟨m, u, v, hm, rfl, rfl, rfl, he⟩ := hrel
    have He := Lib.hid he
    clear he
    by_cases h0 : 0 < m
    · by_cases h1 : m % 2 = 1
      · have hb : bits .and .i64 (m : Int) 1 = 1 := by rw [and1_i64 m (by omega), h1]; rfl
        have Hs := Lib.hid (pow_step_t He.out h1)
        clear h1
        go_wp2_with fail
        refine (times_any _ _ _).mono ?_
        rintro e w' ⟨rfl, rfl⟩
        go_wp2_with fail
        refine (times_any _ _ _).mono ?_
        rintro e w' ⟨rfl, rfl⟩
        go_wp2_with fail
        go_round
        case rel => exact ⟨m / 2, _, _, by omega, by go_num, rfl, rfl, Hs.out⟩
        case measure => simp [intOf]; omega
      · have hb : bits .and .i64 (m : Int) 1 = 0 := by rw [and1_i64 m (by omega), show m % 2 = 0 by omega]; rfl
        have Hs := Lib.hid (pow_step_f He.out h1)
        clear h1
        go_wp2_with fail
        refine (times_any _ _ _).mono ?_
        rintro e w' ⟨rfl, rfl⟩
        go_wp2_with fail
        go_round
        case rel => exact ⟨m / 2, _, _, by omega, by go_num, rfl, rfl, Hs.out⟩
        case measure => simp [intOf]; omega
    · obtain rfl : m = 0 := by omega
      go_wp2
      go_ret
      exact ⟨ret_int (by rw [← He.out]; simp [gpow, gm_one_right]), rfl⟩

theorem bv_ne {a : UInt8} (h : a ≠ 0) : (bv a == 0) = false := by
  rw [show (0 : Int) = bv 0 from rfl, bv_beq]; simpa using h
theorem bv_ne' {a : UInt8} (h : a ≠ 0) : (bv a != 0) = true := by
  rw [show (0 : Int) = bv 0 from rfl, bv_bne]; simpa using h
theorem inv_some (a : UInt8) (h : a ≠ 0) (w : World) : Calls Try.prog 86 #[.int .u8 (bv a)] w fun e w' => e = .returned (.tuple #[.int .u8 (bv (ginv a)), .int .i64 0]) ∧ w = w' := by
  have h0 := bv_ne h
  go_enter Try.func86, Try.ntmps86
  go_wp2_with fail
  refine (power_any a 254 w (by omega)).mono ?_
  rintro e w' ⟨rfl, rfl⟩
  go_wp2_with fail
  go_ret2
  exact ⟨rfl, rfl⟩
/-! ### The document's answer for layer 1 -/
theorem clTo_succ_t {a b : UInt8} {k : Nat} (h : bit b k = true) (hk : k < 8) : bits .xor .u64 (clTo a b k : Int) (IntKind.u64.wrap (bv a * 2 ^ k)) = (clTo a b (k + 1) : Int) := by
  have h1 := clTo_lt a b k
  have h2 : (2 : Nat) ^ (8 + k) ≤ 2 ^ 15 := Nat.pow_le_pow_right (by omega) (by omega)
  have h3 : (2 : Nat) ^ k ≤ 2 ^ 7 := Nat.pow_le_pow_right (by omega) (by omega)
  have h4 : a.toNat * 2 ^ k ≤ 255 * 2 ^ 7 := Nat.mul_le_mul (by have := a.toNat_lt; omega) h3
  have e : bv a * 2 ^ k = ((a.toNat * 2 ^ k : Nat) : Int) := by simp [bv]
  rw [e, IntKind.wrap_u64, Int.emod_eq_of_lt (by omega) (by omega), u64_xor_nat _ _ (by omega) (by omega)]
  simp [clTo, h]
theorem clTo_succ_f {a b : UInt8} {k : Nat} (h : bit b k = false) : clTo a b k = clTo a b (k + 1) := by simp [clTo, h]
theorem nat_tmod (s k : Nat) : ((s : Int) / 2 ^ k).tmod 2 = if s.testBit k then 1 else 0 := by
  have e : ((s : Int) / 2 ^ k) = ((s / 2 ^ k : Nat) : Int) := by simp
  have h2 : s / 2 ^ k % 2 < 2 := Nat.mod_lt _ (by omega)
  rw [e, Int.tmod_eq_emod_of_nonneg (Int.natCast_nonneg _), Nat.testBit_eq_decide_div_mod_eq]
  by_cases h : s / 2 ^ k % 2 = 1
  · simp [h]; omega
  · simp [h]; omega
theorem bit_tmod (b : UInt8) (k : Nat) : (bv b / 2 ^ k).tmod 2 = if bit b k then 1 else 0 := nat_tmod b.toNat k
theorem redTo_succ_t {s j : Nat} (h : (redTo s j).testBit (14 - j) = true) (hs : s < 65536) (hj : j < 7) : bits .xor .u64 (redTo s j : Int) (IntKind.u64.wrap (285 * 2 ^ (14 - j - 8))) = (redTo s (j + 1) : Int) := by
  have h1 := redTo_lt s hs j (by omega)
  have h3 : (2 : Nat) ^ (14 - j - 8) ≤ 2 ^ 6 := Nat.pow_le_pow_right (by omega) (by omega)
  have e : (285 : Int) * 2 ^ (14 - j - 8) = ((285 * 2 ^ (14 - j - 8) : Nat) : Int) := by simp
  rw [e, IntKind.wrap_u64, Int.emod_eq_of_lt (by omega) (by omega), u64_xor_nat _ _ (by omega) (by omega)]
  simp only [redTo, h, if_true]
  rw [show 14 - j - 8 = 6 - j by omega]
theorem redTo_succ_f {s j : Nat} (h : (redTo s j).testBit (14 - j) = false) : redTo s j = redTo s (j + 1) := by simp [redTo, h]
theorem byte_of_nat (s : Nat) : ((s : Int) % 256) = bv (UInt8.ofNat s) := by
  unfold bv; rw [UInt8.toNat_ofNat']; simp
theorem refmul_any (a b : UInt8) (w : World) : Calls Try.prog 56 #[.int .u8 (bv a), .int .u8 (bv b)] w fun e w' => e = .returned (.int .u8 (bv (gm a b))) ∧ w = w' := by
  have Hm : Hid (UInt8.ofNat (redTo (clTo a b 8) 7) = gm a b) := Lib.hid (refm_eq a b)
  have h1 := bv_lt a
  have h2 := bv_nn a
  have h3 := bv_nn b
  have h4 := bv_lt b
  have hs : clTo a b 8 < 65536 := clTo_lt a b 8
  go_enter Try.func56, Try.ntmps56
  go_wp2
  go_loop [5, 6] (fun p i => ∃ k : Nat, k ≤ 8 ∧ i = .int .i64 k ∧ p = .int .u64 (clTo a b k : Int)) (fun _ i => 8 - (intOf i).toNat)
  case atStart => exact ⟨0, by omega, rfl, rfl⟩
  case round =>
    obtain ⟨k, hk, rfl, rfl⟩ := hrel
    by_cases h0 : k < 8
    · cases hb : bit b k
      · have hm : (bv b / 2 ^ k).tmod 2 = 0 := by rw [bit_tmod, hb]; rfl
        have Hs := Lib.hid (clTo_succ_f (a := a) hb)
        clear hb
        go_wp2_with fail
        go_round
        case rel => exact ⟨k + 1, by omega, by go_num, by rw [Hs.out]⟩
        case measure => simp [intOf]; omega
      · have hm : (bv b / 2 ^ k).tmod 2 = 1 := by rw [bit_tmod, hb]; rfl
        have Hs := Lib.hid (clTo_succ_t (a := a) hb h0)
        clear hb
        go_wp2_with fail
        go_round
        case rel => exact ⟨k + 1, by omega, by go_num, by rw [Hs.out]⟩
        case measure => simp [intOf]; omega
    · obtain rfl : k = 8 := by omega
      go_wp2_with fail
      generalize clTo a b 8 = s at *
      go_loop [5, 7] (fun p i => ∃ j : Nat, j ≤ 7 ∧ i = .int .i64 (14 - (j : Int)) ∧ p = .int .u64 (redTo s j : Int)) (fun _ i => (intOf i).toNat)
      case atStart => exact ⟨0, by omega, rfl, rfl⟩
      case round =>
        obtain ⟨j, hj, rfl, rfl⟩ := hrel
        by_cases h5 : j < 7
        · cases hb : (redTo s j).testBit (14 - j)
          · have hm : ((redTo s j : Int) / 2 ^ (14 - j)).tmod 2 = 0 := by rw [nat_tmod, hb]; rfl
            have Hs := Lib.hid (redTo_succ_f hb)
            clear hb
            go_wp2_with fail
            go_round
            case rel => exact ⟨j + 1, by omega, int_eq (by omega), by rw [Hs.out]⟩
            case measure => simp [intOf]; omega
          · have hm : ((redTo s j : Int) / 2 ^ (14 - j)).tmod 2 = 1 := by rw [nat_tmod, hb]; rfl
            have Hs := Lib.hid (redTo_succ_t hb hs h5)
            clear hb
            go_wp2_with fail
            go_round
            case rel => exact ⟨j + 1, by omega, int_eq (by omega), by rw [Hs.out]⟩
            case measure => simp [intOf]; omega
        · obtain rfl : j = 7 := by omega
          go_wp2_with fail
          go_ret
          refine ⟨ret_int ?_, rfl⟩
          rw [← Hm.out, ← byte_of_nat]

theorem refmul_nat (a : UInt8) (k : Nat) (hk : k < 256) (w : World) : Calls Try.prog 56 #[.int .u8 (bv a), .int .u8 (k : Int)] w fun e w' => e = .returned (.int .u8 (bv (gm a (UInt8.ofNat k)))) ∧ w = w' := by
  rw [← bv_ofNat k hk]
  exact refmul_any _ _ _
theorem refinv_some (a : UInt8) (h : a ≠ 0) (w : World) : Calls Try.prog 94 #[.int .u8 (bv a)] w fun e w' => e = .returned (.int .u8 (bv (ginv a))) ∧ w = w' := by
  have Hg := Lib.hid (gm_ginv h)
  have hlt := (ginv a).toNat_lt
  have hne : (ginv a).toNat ≠ 0 := fun e => ginv_ne h (UInt8.toNat_inj.1 e)
  go_enter Try.func94, Try.ntmps94
  go_wp2
  go_loop [3] (fun i => ∃ k : Nat, 1 ≤ k ∧ k ≤ (ginv a).toNat ∧ i = .int .i64 k) (fun i => 256 - (intOf i).toNat)
  case atStart => exact ⟨1, by omega, by omega, rfl⟩
  case round =>
    obtain ⟨k, hk, hk2, rfl⟩ := hrel
    have hk3 : k < 256 := by omega
    have hk4 : (k : Int) < 256 := by omega
    by_cases he : k = (ginv a).toNat
    · have hg : gm a (UInt8.ofNat k) = 1 := by rw [he, UInt8.ofNat_toNat]; exact Hg.out
      have ht : (bv (gm a (UInt8.ofNat k)) == 1) = true := by rw [hg]; rfl
      have Hk : Hid (UInt8.ofNat k = ginv a) := Lib.hid (by rw [he, UInt8.ofNat_toNat])
      clear hg he
      go_wp2_with fail
      refine (refmul_nat a k hk3 _).mono ?_
      rintro e w' ⟨rfl, rfl⟩
      go_wp2_with fail
      go_ret
      exact ⟨ret_int (by rw [← Hk.out, bv_ofNat k hk3]), rfl⟩
    · have hg : gm a (UInt8.ofNat k) ≠ 1 := fun e => by
        have := congrArg UInt8.toNat (ginv_unique e)
        rw [UInt8.toNat_ofNat_of_lt' (by simpa using hk3)] at this
        exact he this
      have ht : (bv (gm a (UInt8.ofNat k)) == 1) = false := by rw [show (1 : Int) = bv 1 from rfl, bv_beq]; simpa using hg
      clear hg
      go_wp2_with fail
      refine (refmul_nat a k hk3 _).mono ?_
      rintro e w' ⟨rfl, rfl⟩
      go_wp2_with fail
      go_round
      case rel => exact ⟨k + 1, by omega, by omega, by go_num⟩
      case measure => simp [intOf]; omega

/-! ### Calls of Add and Mul with a slice that was just built -/
theorem rd2 {w : World} {g : Nat} {a b : UInt8} (h0 : w.cell? ⟨g, 0, none⟩ = some (.int .u8 (bv a))) (h1 : w.cell? ⟨g, 1, none⟩ = some (.int .u8 (bv b))) : Rd w (g + 1) (some ⟨g, 0, none⟩) 2 [a, b] := by
  refine ⟨rfl, fun _ => ⟨g, 0, rfl, by omega, fun i u hi => ?_⟩⟩
  match i, hi with
  | 0, hi => simp at hi; subst hi; simpa using h0
  | 1, hi => simp at hi; subst hi; simpa using h1
theorem mul2 {w : World} {g c : Nat} (a b : UInt8) (h0 : w.cell? ⟨g, 0, none⟩ = some (.int .u8 (bv a))) (h1 : w.cell? ⟨g, 1, none⟩ = some (.int .u8 (bv b))) :
    Calls Try.prog 105 #[.slice (some ⟨g, 0, none⟩) 2 c] w fun e w' => e = .returned (.int .u8 (bv (gm a b))) ∧ w = w' := by
  have h := mul_any (c := c) (rd2 h0 h1) (by omega)
  rwa [show gprod [a, b] = gm a b by simp [gprod, gm_one_left]] at h
theorem add2 {w : World} {g c : Nat} (a b : UInt8) (h0 : w.cell? ⟨g, 0, none⟩ = some (.int .u8 (bv a))) (h1 : w.cell? ⟨g, 1, none⟩ = some (.int .u8 (bv b))) :
    Calls Try.prog 106 #[.slice (some ⟨g, 0, none⟩) 2 c] w fun e w' => e = .returned (.int .u8 (bv (a ^^^ b))) ∧ w = w' := by
  have h := add_any (c := c) (rd2 h0 h1) (by omega)
  rwa [show gsum [a, b] = a ^^^ b by simp [gsum]] at h
theorem add2_eq {w : World} {g c : Nat} {a b d : UInt8} (e : a ^^^ b = d) (h0 : w.cell? ⟨g, 0, none⟩ = some (.int .u8 (bv a))) (h1 : w.cell? ⟨g, 1, none⟩ = some (.int .u8 (bv b))) :
    Calls Try.prog 106 #[.slice (some ⟨g, 0, none⟩) 2 c] w fun e w' => e = .returned (.int .u8 (bv d)) ∧ w = w' := by
  have h := add2 (c := c) a b h0 h1
  rwa [e] at h
end Go.Proofs.Ytaidbcppecoenaa

