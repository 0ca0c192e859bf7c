import Derived.Test.YtaidbcppecoenaaWords
/- What the functions of package field, and the document's own answer for them, come to. -/
namespace Go.Proofs.Ytaidbcppecoenaa
open Go.RowKit
set_option linter.unusedVariables false
set_option maxRecDepth 100000
attribute [local go_sem] bits_xor_b bits_and1_b
theorem twice_any (a : UInt8) (w : World) : Calls Try.prog 111 #[.int .u8 (bv a)] w fun e w' => e = .returned (.int .u8 (bv (xt a))) ∧ w = w' := by
  go_enter Try.func111, Try.ntmps111
  go_wp2
  · rename_i h
    go_ret
    exact ⟨ret_int (xt_hi h), rfl⟩
  · rename_i h
    go_ret
    exact ⟨ret_int (xt_lo h), rfl⟩

theorem gmTo_succ_t {a b : UInt8} {k : Nat} (h : bit b k = true) : gmTo a b k ^^^ xts k a = gmTo a b (k + 1) := by simp [gmTo, h]
theorem gmTo_succ_f {a b : UInt8} {k : Nat} (h : bit b k = false) : gmTo a b k = gmTo a b (k + 1) := by simp [gmTo, h]
theorem times_any (a b : UInt8) (w : World) : Calls Try.prog 109 #[.int .u8 (bv a), .int .u8 (bv b)] w fun e w' => e = .returned (.int .u8 (bv (gm a b))) ∧ w = w' := by
  go_enter Try.func109, Try.ntmps109
  go_wp2
  go_loop [0, 5, 7] (fun x p i => ∃ k : Nat, k ≤ 8 ∧ i = .int .i64 k ∧ x = .int .u8 (bv (xts k a)) ∧ p = .int .u8 (bv (gmTo a b k))) (fun _ _ i => 8 - (intOf i).toNat)
  case atStart => exact ⟨0, by omega, rfl, rfl, rfl⟩
  case round =>
    obtain ⟨k, hk, rfl, rfl, rfl⟩ := hrel
    by_cases hlt : k < 8
    · cases hb : bit b k
      · have Hb := Lib.hid (gmTo_succ_f (a := a) hb)
        go_wp2_with (go_at_call 111; refine (twice_any _ _).mono ?_; rintro e w' ⟨rfl, rfl⟩)
        go_round
        case rel => exact ⟨k + 1, by omega, by go_num, rfl, by rw [Hb.out]⟩
        case measure => simp [intOf]; omega
      · have Hb := Lib.hid (gmTo_succ_t (a := a) hb)
        go_wp2_with (go_at_call 111; refine (twice_any _ _).mono ?_; rintro e w' ⟨rfl, rfl⟩)
        go_round
        case rel => exact ⟨k + 1, by omega, by go_num, rfl, by rw [Hb.out]⟩
        case measure => simp [intOf]; omega
    · obtain rfl : k = 8 := by omega
      go_wp2
      go_ret
      exact ⟨rfl, rfl⟩

/-- The product of bytes, from the first on. -/
def gprod (us : List UInt8) : UInt8 := us.foldl gm 1
theorem gprod_take (us : List UInt8) (k : Nat) (h : k < us.length) : gprod (us.take (k + 1)) = gm (gprod (us.take k)) (us[k]?.getD 0) := by
  unfold gprod
  rw [List.take_succ_eq_append_getElem h, List.foldl_append]
  simp [h]
def gsum (us : List UInt8) : UInt8 := us.foldl (· ^^^ ·) 0
theorem gsum_take (us : List UInt8) (k : Nat) (h : k < us.length) : gsum (us.take (k + 1)) = gsum (us.take k) ^^^ us[k]?.getD 0 := by
  unfold gsum
  rw [List.take_succ_eq_append_getElem h, List.foldl_append]
  simp [h]

theorem mul_any {B : Nat} {A : Option Addr} {n c : Nat} {us : List UInt8} {w : World} (h : Rd w B A n us) (hn : n ≤ 9223372036854775807) :
    Calls Try.prog 105 #[.slice A n c] w fun e w' => e = .returned (.int .u8 (bv (gprod us))) ∧ w = w' := by
  go_enter Try.func105, Try.ntmps105
  go_wp2
  go_loop [3, 8] (fun p i => ∃ k : Nat, k ≤ n ∧ i = .int .i64 k ∧ p = .int .u8 (bv (gprod (us.take k)))) (fun _ i => n - (intOf i).toNat)
  case atStart => exact ⟨0, by omega, rfl, rfl⟩
  case round =>
    obtain ⟨k, hk, rfl, rfl⟩ := hrel
    by_cases hlt : k < n
    · have Hp := Lib.hid (gprod_take us k (by have := h.1; omega))
      obtain ⟨b, off, rfl, _, hc⟩ := h.at_ hlt
      go_wp2_with (go_at_call 109; refine (times_any _ _ _).mono ?_; rintro e w' ⟨rfl, rfl⟩)
      go_round
      case rel => exact ⟨k + 1, by omega, by go_num, by rw [Hp.out]⟩
      case measure => simp [intOf]; omega
    · obtain rfl : k = n := by omega
      have Hl := Lib.hid h.1
      go_wp2
      go_ret
      exact ⟨ret_int (by rw [List.take_of_length_le (by rw [Hl.out]; omega)]), rfl⟩
theorem add_any {B : Nat} {A : Option Addr} {n c : Nat} {us : List UInt8} {w : World} (h : Rd w B A n us) (hn : n ≤ 9223372036854775807) :
    Calls Try.prog 106 #[.slice A n c] w fun e w' => e = .returned (.int .u8 (bv (gsum us))) ∧ w = w' := by
  go_enter Try.func106, Try.ntmps106
  go_wp2
  go_loop [3, 8] (fun p i => ∃ k : Nat, k ≤ n ∧ i = .int .i64 k ∧ p = .int .u8 (bv (gsum (us.take k)))) (fun _ i => n - (intOf i).toNat)
  case atStart => exact ⟨0, by omega, rfl, rfl⟩
  case round =>
    obtain ⟨k, hk, rfl, rfl⟩ := hrel
    by_cases hlt : k < n
    · have Hp := Lib.hid (gsum_take us k (by have := h.1; omega))
      obtain ⟨b, off, rfl, _, hc⟩ := h.at_ hlt
      go_wp2
      go_round
      case rel => exact ⟨k + 1, by omega, by go_num, by rw [Hp.out]⟩
      case measure => simp [intOf]; omega
    · obtain rfl : k = n := by omega
      have Hl := Lib.hid h.1
      go_wp2
      go_ret
      exact ⟨ret_int (by rw [List.take_of_length_le (by rw [Hl.out]; omega)]), rfl⟩

/-! ### remainder, power, Inv, Div, Pow, Exp, Log -/
theorem and1_i64 (m : Nat) (h : m ≤ 9223372036854775807) : bits .and .i64 (m : Int) 1 = ((m % 2 : Nat) : Int) := by
  have two63 : (2 : Int) ^ 63 = 9223372036854775808 := by decide
  have h := bits_mask .i64 63 (by decide) (fun n h0 h1 => by rw [two63] at h1; rw [IntKind.wrap_i64]; omega) 1 (by decide) (m : Int) (by omega) (by rw [two63]; omega)
  have e : ((2 : Int) ^ 1 - 1) = 1 := by decide
  rw [e] at h
  rw [h]
  omega
theorem pow_step_t {a x v : UInt8} {n m : Nat} (he : gm v (gpow x m) = gpow a n) (h : m % 2 = 1) : gm (gm v x) (gpow (gm x x) (m / 2)) = gpow a n := by
  rw [← he, gpow_half x m, if_pos h, gm_assoc]
theorem pow_step_f {a x v : UInt8} {n m : Nat} (he : gm v (gpow x m) = gpow a n) (h : ¬ m % 2 = 1) : gm v (gpow (gm x x) (m / 2)) = gpow a n := by
  rw [← he, gpow_half x m, if_neg h]
theorem power_any (a : UInt8) (n : Nat) (w : World) (hn : n ≤ 9223372036854775807) :
    Calls Try.prog 104 #[.int .u8 (bv a), .int .i64 (n : Int)] w fun e w' => e = .returned (.int .u8 (bv (gpow a n))) ∧ w = w' := by
  go_enter Try.func104, Try.ntmps104
  go_wp2
  go_loop [0, 5, 1] (fun x p i => ∃ m : Nat, ∃ u v : UInt8, m ≤ n ∧ i = .int .i64 m ∧ x = .int .u8 (bv u) ∧ p = .int .u8 (bv v) ∧ gm v (gpow u m) = gpow a n) (fun _ _ i => (intOf i).toNat)
  case atStart => exact ⟨n, a, 1, by omega, rfl, rfl, rfl, gm_one_left _⟩
  case round =>
    obtain ⟨m, u, v, hm, rfl, rfl, rfl, he⟩ := hrel
    have He := Lib.hid he
    clear he
    by_cases h0 : 0 < m
    · by_cases h1 : m % 2 = 1
      · have hb : bits .and .i64 (m : Int) 1 = 1 := by rw [and1_i64 m (by omega), h1]; rfl
        have Hs := Lib.hid (pow_step_t He.out h1)
        clear h1
        go_wp2_with fail
        refine (times_any _ _ _).mono ?_
        rintro e w' ⟨rfl, rfl⟩
        go_wp2_with fail
        refine (times_any _ _ _).mono ?_
        rintro e w' ⟨rfl, rfl⟩
        go_wp2_with fail
        go_round
        case rel => exact ⟨m / 2, _, _, by omega, by go_num, rfl, rfl, Hs.out⟩
        case measure => simp [intOf]; omega
      · have hb : bits .and .i64 (m : Int) 1 = 0 := by rw [and1_i64 m (by omega), show m % 2 = 0 by omega]; rfl
        have Hs := Lib.hid (pow_step_f He.out h1)
        clear h1
        go_wp2_with fail
        refine (times_any _ _ _).mono ?_
        rintro e w' ⟨rfl, rfl⟩
        go_wp2_with fail
        go_round
        case rel => exact ⟨m / 2, _, _, by omega, by go_num, rfl, rfl, Hs.out⟩
        case measure => simp [intOf]; omega
    · obtain rfl : m = 0 := by omega
      go_wp2
      go_ret
      exact ⟨ret_int (by rw [← He.out]; simp [gpow, gm_one_right]), rfl⟩

theorem bv_ne {a : UInt8} (h : a ≠ 0) : (bv a == 0) = false := by
  rw [show (0 : Int) = bv 0 from rfl, bv_beq]; simpa using h
theorem bv_ne' {a : UInt8} (h : a ≠ 0) : (bv a != 0) = true := by
  rw [show (0 : Int) = bv 0 from rfl, bv_bne]; simpa using h
theorem inv_zero (w : World) : Calls Try.prog 86 #[.int .u8 0] w fun e w' => e = .returned (.tuple #[.int .u8 0, .int .i64 3]) ∧ w = w' := by
  go_enter Try.func86, Try.ntmps86
  go_wp2
  go_ret2
  exact ⟨rfl, rfl⟩
theorem inv_some (a : UInt8) (h : a ≠ 0) (w : World) : Calls Try.prog 86 #[.int .u8 (bv a)] w fun e w' => e = .returned (.tuple #[.int .u8 (bv (ginv a)), .int .i64 0]) ∧ w = w' := by
  have h0 := bv_ne h
  go_enter Try.func86, Try.ntmps86
  go_wp2_with fail
  refine (power_any a 254 w (by omega)).mono ?_
  rintro e w' ⟨rfl, rfl⟩
  go_wp2_with fail
  go_ret2
  exact ⟨rfl, rfl⟩
/-! ### The document's answer for layer 1 -/
/-! ### Calls of Add and Mul with a slice that was just built -/
theorem rd2 {w : World} {g : Nat} {a b : UInt8} (h0 : w.cell? ⟨g, 0, none⟩ = some (.int .u8 (bv a))) (h1 : w.cell? ⟨g, 1, none⟩ = some (.int .u8 (bv b))) : Rd w (g + 1) (some ⟨g, 0, none⟩) 2 [a, b] := by
  refine ⟨rfl, fun _ => ⟨g, 0, rfl, by omega, fun i u hi => ?_⟩⟩
  match i, hi with
  | 0, hi => simp at hi; subst hi; simpa using h0
  | 1, hi => simp at hi; subst hi; simpa using h1
theorem mul2 {w : World} {g c : Nat} (a b : UInt8) (h0 : w.cell? ⟨g, 0, none⟩ = some (.int .u8 (bv a))) (h1 : w.cell? ⟨g, 1, none⟩ = some (.int .u8 (bv b))) :
    Calls Try.prog 105 #[.slice (some ⟨g, 0, none⟩) 2 c] w fun e w' => e = .returned (.int .u8 (bv (gm a b))) ∧ w = w' := by
  have h := mul_any (c := c) (rd2 h0 h1) (by omega)
  rwa [show gprod [a, b] = gm a b by simp [gprod, gm_one_left]] at h
theorem add2 {w : World} {g c : Nat} (a b : UInt8) (h0 : w.cell? ⟨g, 0, none⟩ = some (.int .u8 (bv a))) (h1 : w.cell? ⟨g, 1, none⟩ = some (.int .u8 (bv b))) :
    Calls Try.prog 106 #[.slice (some ⟨g, 0, none⟩) 2 c] w fun e w' => e = .returned (.int .u8 (bv (a ^^^ b))) ∧ w = w' := by
  have h := add_any (c := c) (rd2 h0 h1) (by omega)
  rwa [show gsum [a, b] = a ^^^ b by simp [gsum]] at h
theorem add2_eq {w : World} {g c : Nat} {a b d : UInt8} (e : a ^^^ b = d) (h0 : w.cell? ⟨g, 0, none⟩ = some (.int .u8 (bv a))) (h1 : w.cell? ⟨g, 1, none⟩ = some (.int .u8 (bv b))) :
    Calls Try.prog 106 #[.slice (some ⟨g, 0, none⟩) 2 c] w fun e w' => e = .returned (.int .u8 (bv d)) ∧ w = w' := by
  have h := add2 (c := c) a b h0 h1
  rwa [e] at h
end Go.Proofs.Ytaidbcppecoenaa

