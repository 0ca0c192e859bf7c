import Derived.Test.YtghmaaeglejmbaaField
/- The four statements of layer 1 (field): what the law's text comes to, from the contracts of the functions that it calls. -/
namespace Go.Proofs.Ytghmaaeglejmbaa
open Go.ChangeShapes Go.WideShapes Go.ChangeAt Go.RowKit
open Go.ChangeMaps (open_string shut_string)
set_option linter.unusedVariables false
set_option maxRecDepth 100000
attribute [local go_sem] bits_xor_b

theorem awake1 (w : World) : Calls Try.prog 10 #[] w fun e w' => e = .returned (.bool true) ∧ Below w.heap.size w w' := by
  have k1 : (bv (gm 2 128) == 29) = true := by decide +kernel
  have k2 : (bv (gm 3 3) == 5) = true := by decide +kernel
  have k3 : (bv (gpow 2 8) == 29) = true := by decide +kernel
  go_enter Try.func10, Try.ntmps10
  go_wp2_with fail
  refine (mul2 2 128 (by simp; rfl) (by simp; rfl)).mono ?_
  rintro e w' ⟨rfl, rfl⟩
  go_wp2_with fail
  refine (mul2 3 3 (by simp; rfl) (by simp; rfl)).mono ?_
  rintro e w' ⟨rfl, rfl⟩
  go_wp2_with fail
  refine (exp_any 8 _ (by omega) (by omega)).mono ?_
  rintro e w' ⟨rfl, rfl⟩
  go_wp2_with fail
  go_ret
  exact ⟨rfl, ((Below.refl _ _).alloc (Nat.le_refl _) _).alloc (by simp) _⟩

theorem beq_self {a b : UInt8} (h : a = b) : (bv a == bv b) = true := by rw [bv_beq, h]; simp
theorem bne_self {a b : UInt8} (h : a = b) : (bv a != bv b) = false := by rw [bv_bne, h]; simp

/-! ### FieldReckons -/
theorem reckons_walk (A : Option Addr) (n c : Nat) (us : List UInt8) (w : World) (r : Rd w w.heap.size A n us) (hn : n ≤ c ∧ c ≤ maxLen) :
    Calls Try.prog 3 #[.slice A n c] w fun e w' => e = .returned (.bool true) ∧ Below w.heap.size w w' := by
  have hn1 : n ≤ 9223372036854775807 := by unfold maxLen at hn; omega
  clear hn
  by_cases hbig : 200 < n
  · go_enter Try.func3, Try.ntmps3
    go_wp2_with fail
    refine (awake1 _).mono ?_
    rintro e w1 ⟨rfl, hb⟩
    go_wp2_with fail
    go_ret
    exact ⟨rfl, hb⟩
  · go_enter Try.func3, Try.ntmps3
    go_wp2_with fail
    refine (awake1 _).mono ?_
    rintro e w1 ⟨rfl, hb⟩
    have r1 := r.below hb
    go_wp2_with fail
    go_loop [3, 4, 14] (fun s p i => ∃ k : Nat, k ≤ n ∧ i = .int .i64 k ∧ s = .int .u8 (bv (gsum (us.take k))) ∧ p = .int .u8 (bv (gprod (us.take k)))) (fun _ _ i => n - (intOf i).toNat)
    case atStart => exact ⟨0, by omega, rfl, rfl, rfl⟩
    case round =>
      obtain ⟨k, hk, rfl, rfl, rfl⟩ := hrel
      by_cases hlt : k < n
      · have Hp := Lib.hid (gprod_take us k (by have := r.1; omega))
        have Hs := Lib.hid (gsum_take us k (by have := r.1; omega))
        obtain ⟨b, off, rfl, _, hc⟩ := r1.at_ hlt
        go_wp2_with fail
        refine (refmul_any _ _ _).mono ?_
        rintro e w' ⟨rfl, rfl⟩
        go_wp2_with fail
        go_round
        case rel => exact ⟨k + 1, by omega, by go_num, by rw [Hs.out], by rw [Hp.out]⟩
        case measure => simp [intOf]; omega
      · obtain rfl : k = n := by omega
        have Hl := Lib.hid r.1
        have t1 : (bv (gsum us) == bv (gsum (us.take k))) = true := beq_self (by rw [List.take_of_length_le (by rw [Hl.out]; omega)])
        have t2 : (bv (gprod us) == bv (gprod (us.take k))) = true := beq_self (by rw [List.take_of_length_le (by rw [Hl.out]; omega)])
        go_wp2_with fail
        refine (add_any r1 hn1).mono ?_
        rintro e w' ⟨rfl, rfl⟩
        go_wp2_with fail
        refine (mul_any r1 hn1).mono ?_
        rintro e w' ⟨rfl, rfl⟩
        go_wp2_with fail
        go_ret
        exact ⟨rfl, hb⟩

/-! ### FieldDivides -/
theorem divides_walk (a b : UInt8) (n : Int) (w : World) (wn : (Lit.int .i64 n).wf = true) :
    Calls Try.prog 4 #[.int .u8 (bv a), .int .u8 (bv b), .int .i64 n] w fun e w' => e = .returned (.bool true) ∧ Below w.heap.size w w' := by
  have hn := bounds_i64 wn
  clear wn
  obtain ⟨hn1, hn2⟩ := hn
  have t0 : (bv (gpow 2 (n % 255).toNat) == bv (gpow 2 (n % 255).toNat)) = true := by simp
  by_cases ha : a = 0
  · subst ha
    have c1 := div_zero b
    show Calls Try.prog _ #[.int .u8 0, .int .u8 (bv b), .int .i64 n] w _
    go_enter Try.func4, Try.ntmps4
    go_wp2_with fail
    refine (awake1 _).mono ?_
    rintro e w1 ⟨rfl, hb⟩
    go_wp2_with fail
    refine (inv_zero _).mono ?_
    rintro e w' ⟨rfl, rfl⟩
    go_wp2_with fail
    refine (div_zero _ _).mono ?_
    rintro e w' ⟨rfl, rfl⟩
    go_wp2_with fail
    refine (log_zero _).mono ?_
    rintro e w' ⟨rfl, rfl⟩
    go_wp2_with fail
    refine (exp_any n _ hn1 hn2).mono ?_
    rintro e w' ⟨rfl, rfl⟩
    go_wp2_with fail
    refine (refexp_any n _ hn1 hn2).mono ?_
    rintro e w' ⟨rfl, rfl⟩
    go_wp2_with fail
    go_ret
    exact ⟨rfl, hb⟩
  · have ha0 := bv_ne ha
    have t1 : (bv (ginv a) == bv (ginv a)) = true := by simp
    have t2 : (bv (gm b (ginv a)) == bv (gm b (ginv a))) = true := by simp
    go_enter Try.func4, Try.ntmps4
    go_wp2_with fail
    refine (awake1 _).mono ?_
    rintro e w1 ⟨rfl, hb⟩
    go_wp2_with fail
    refine (inv_some a ha _).mono ?_
    rintro e w' ⟨rfl, rfl⟩
    go_wp2_with fail
    refine (div_some b a ha _).mono ?_
    rintro e w' ⟨rfl, rfl⟩
    go_wp2_with fail
    refine (log_some a ha _).mono ?_
    rintro e w' ⟨k, rfl, hk, hka, rfl⟩
    have t3 : (bv (gpow 2 ((k : Int) % 255).toNat) == bv a) = true := by
      apply beq_self
      rw [← hka, pows_eq]
      congr 1
      omega
    clear hka
    go_wp2_with fail
    refine (refinv_some a ha _).mono ?_
    rintro e w' ⟨rfl, rfl⟩
    go_wp2_with fail
    refine (refinv_some a ha _).mono ?_
    rintro e w' ⟨rfl, rfl⟩
    go_wp2_with fail
    refine (refmul_any _ _ _).mono ?_
    rintro e w' ⟨rfl, rfl⟩
    go_wp2_with fail
    refine (refexp_any k _ (by omega) (by omega)).mono ?_
    rintro e w' ⟨rfl, rfl⟩
    go_wp2_with fail
    refine (exp_any n _ hn1 hn2).mono ?_
    rintro e w' ⟨rfl, rfl⟩
    go_wp2_with fail
    refine (refexp_any n _ hn1 hn2).mono ?_
    rintro e w' ⟨rfl, rfl⟩
    go_wp2_with fail
    go_ret
    exact ⟨rfl, hb⟩

/-! ### FieldPowers -/
theorem powers_zero (n : Int) (w : World) (hn1 : -9223372036854775808 ≤ n) (hn2 : n ≤ 9223372036854775807) :
    Calls Try.prog 5 #[.int .u8 0, .int .i64 n] w fun e w' => e = .returned (.bool true) ∧ Below w.heap.size w w' := by
  by_cases h0 : n < 0
  · go_enter Try.func5, Try.ntmps5
    go_wp2_with fail
    refine (awake1 _).mono ?_
    rintro e w1 ⟨rfl, hb⟩
    go_wp2_with fail
    refine (pow_zero_down n _ h0).mono ?_
    rintro e w' ⟨rfl, rfl⟩
    go_wp2_with fail
    go_ret
    exact ⟨rfl, hb⟩
  · obtain ⟨m, rfl⟩ := Int.eq_ofNat_of_zero_le (show 0 ≤ n by omega)
    by_cases h1 : m = 0
    · subst h1
      have t1 : (bv (gpow 0 0) == 1) = true := by decide +kernel
      have t2 : (1 == bv (gpow 0 0)) = true := by decide +kernel
      go_enter Try.func5, Try.ntmps5
      go_wp2_with fail
      refine (awake1 _).mono ?_
      rintro e w1 ⟨rfl, hb⟩
      go_wp2_with fail
      refine (pow_zero_zero _).mono ?_
      rintro e w' ⟨rfl, rfl⟩
      go_wp2_with fail
      refine (refpow_any 0 0 _ (by omega)).mono ?_
      rintro e w' ⟨rfl, rfl⟩
      go_wp2_with fail
      go_ret
      exact ⟨rfl, hb⟩
    · have t2 : (0 == bv (gpow 0 m)) = true := by rw [gpow_zero_base (by omega)]; rfl
      have h2 : 0 < (m : Int) := by omega
      go_enter Try.func5, Try.ntmps5
      go_wp2_with fail
      refine (awake1 _).mono ?_
      rintro e w1 ⟨rfl, hb⟩
      go_wp2_with fail
      refine (pow_zero_up m _ h2).mono ?_
      rintro e w' ⟨rfl, rfl⟩
      go_wp2_with fail
      refine (refpow_any 0 m _ (by omega)).mono ?_
      rintro e w' ⟨rfl, rfl⟩
      go_wp2_with fail
      go_ret
      exact ⟨rfl, hb⟩
theorem neg_pow {a : UInt8} (ha : a ≠ 0) (m : Nat) : gpow a ((-(m : Int) - 1) % 255).toNat = gpow (ginv a) (m + 1) := by
  rw [ginv, gpow_mul, ← gpow_mod ha (254 * (m + 1))]
  congr 1
  omega
theorem powers_some (a : UInt8) (ha : a ≠ 0) (n : Int) (w : World) (hn1 : -9223372036854775808 ≤ n) (hn2 : n ≤ 9223372036854775807) :
    Calls Try.prog 5 #[.int .u8 (bv a), .int .i64 n] w fun e w' => e = .returned (.bool true) ∧ Below w.heap.size w w' := by
  have ha0 := bv_ne ha
  by_cases h0 : n < 0
  · obtain ⟨m, hm⟩ := Int.eq_ofNat_of_zero_le (show 0 ≤ -n - 1 by omega)
    obtain rfl : n = -(m : Int) - 1 := by omega
    have t1 : (bv (gpow a ((-(m : Int) - 1) % 255).toNat) == bv (gpow (ginv a) (m + 1))) = true := beq_self (neg_pow ha m)
    clear hm
    go_enter Try.func5, Try.ntmps5
    go_wp2_with fail
    refine (awake1 _).mono ?_
    rintro e w1 ⟨rfl, hb⟩
    go_wp2_with fail
    refine (pow_some a ha _ _ hn1 hn2).mono ?_
    rintro e w' ⟨rfl, rfl⟩
    go_wp2_with fail
    refine (refinv_some a ha _).mono ?_
    rintro e w' ⟨rfl, rfl⟩
    go_wp2_with fail
    refine (refpow_any (ginv a) (m + 1) _ (by omega)).mono ?_
    rintro e w' ⟨rfl, rfl⟩
    go_wp2_with fail
    go_ret
    exact ⟨rfl, hb⟩
  · obtain ⟨m, rfl⟩ := Int.eq_ofNat_of_zero_le (show 0 ≤ n by omega)
    have t1 : (bv (gpow a (m % 255)) == bv (gpow a m)) = true := beq_self (gpow_mod ha m)
    go_enter Try.func5, Try.ntmps5
    go_wp2_with fail
    refine (awake1 _).mono ?_
    rintro e w1 ⟨rfl, hb⟩
    go_wp2_with fail
    refine (pow_some a ha _ _ hn1 hn2).mono ?_
    rintro e w' ⟨rfl, rfl⟩
    go_wp2_with fail
    refine (refpow_any a m _ (by omega)).mono ?_
    rintro e w' ⟨rfl, rfl⟩
    go_wp2_with fail
    go_ret
    exact ⟨rfl, hb⟩
theorem powers_walk (a : UInt8) (n : Int) (w : World) (wn : (Lit.int .i64 n).wf = true) :
    Calls Try.prog 5 #[.int .u8 (bv a), .int .i64 n] w fun e w' => e = .returned (.bool true) ∧ Below w.heap.size w w' := by
  have hn := bounds_i64 wn
  by_cases ha : a = 0
  · subst ha; exact powers_zero n w hn.1 hn.2
  · exact powers_some a ha n w hn.1 hn.2

/-! ### FieldLaws -/
set_option maxHeartbeats 2000000 in
theorem laws_zero (a c : UInt8) (w : World) :
    Calls Try.prog 6 #[.int .u8 (bv a), .int .u8 (bv 0), .int .u8 (bv c)] w fun e w' => e = .returned (.bool true) ∧ Below w.heap.size w w' := by
  obtain ⟨b, hb0⟩ : ∃ b : UInt8, b = 0 := ⟨0, rfl⟩
  have z : (bv b == 0) = true := by rw [hb0]; rfl
  have dz : ∀ w, Calls Try.prog 15 #[.int .u8 (bv a), .int .u8 (bv b)] w fun e w' => e = .returned (.tuple #[.int .u8 0, .int .i64 3]) ∧ w = w' := fun w => by rw [hb0]; exact div_zero a w
  rw [← hb0]
  clear hb0
  have Dz := Lib.hid dz
  clear dz
  have f1 : (bv (a ^^^ b) != bv (b ^^^ a)) = false := bne_self (UInt8.xor_comm _ _)
  have f2 : (bv (gm a b) != bv (gm b a)) = false := bne_self (gm_comm _ _)
  have f3 : (bv (gm (gm a b) c) != bv (gm a (gm b c))) = false := bne_self (gm_assoc _ _ _)
  have f4 : (bv (gm (gm a b) c) != bv (gm (gm c b) a)) = false := bne_self (by rw [gm_assoc, gm_comm a, gm_comm b c])
  have f5 : (bv (gm a (b ^^^ c)) != bv (gm a b ^^^ gm a c)) = false := bne_self (gm_xor_right _ _ _)
  have f6 : (bv a != bv a) = false := bne_self rfl
  go_enter Try.func6, Try.ntmps6
  go_wp2_with fail
  refine (awake1 _).mono ?_
  rintro e w1 ⟨rfl, hb⟩
  go_wp2_with fail
  go_call (add2 a b) as e w' ⟨rfl, rfl⟩
  go_wp2_with fail
  go_call (add2 b a) as e w' ⟨rfl, rfl⟩
  go_wp2_with fail
  go_call (mul2 a b) as e w' ⟨rfl, rfl⟩
  go_wp2_with fail
  go_call (mul2 b a) as e w' ⟨rfl, rfl⟩
  go_wp2_with fail
  go_call (mul2 a b) as e w' ⟨rfl, rfl⟩
  go_wp2_with fail
  go_call (mul2 (gm a b) c) as e w' ⟨rfl, rfl⟩
  go_wp2_with fail
  go_call (mul2 b c) as e w' ⟨rfl, rfl⟩
  go_wp2_with fail
  go_call (mul2 a (gm b c)) as e w' ⟨rfl, rfl⟩
  go_wp2_with fail
  go_call (mul3 a b c) as e w' ⟨rfl, rfl⟩
  go_wp2_with fail
  go_call (mul3 c b a) as e w' ⟨rfl, rfl⟩
  go_wp2_with fail
  go_call (add2 b c) as e w' ⟨rfl, rfl⟩
  go_wp2_with fail
  go_call (mul2 a (b ^^^ c)) as e w' ⟨rfl, rfl⟩
  go_wp2_with fail
  go_call (mul2 a b) as e w' ⟨rfl, rfl⟩
  go_wp2_with fail
  go_call (mul2 a c) as e w' ⟨rfl, rfl⟩
  go_wp2_with fail
  go_call (add2 (gm a b) (gm a c)) as e w' ⟨rfl, rfl⟩
  go_wp2_with fail
  go_call (add2_self a) as e w' ⟨rfl, rfl⟩
  go_wp2_with fail
  go_call (add2_zero a) as e w' ⟨rfl, rfl⟩
  go_wp2_with fail
  go_call (mul2_one a) as e w' ⟨rfl, rfl⟩
  go_wp2_with fail
  go_call (mul2_zero a) as e w' ⟨rfl, rfl⟩
  go_wp2_with fail
  refine (Dz.out _).mono ?_
  rintro e w' ⟨rfl, rfl⟩
  go_wp2_with fail
  go_ret
  exact ⟨rfl, by have hz := hb.size; go_grown⟩
set_option maxHeartbeats 4000000 in
theorem laws_some (a b c : UInt8) (h : b ≠ 0) (w : World) :
    Calls Try.prog 6 #[.int .u8 (bv a), .int .u8 (bv b), .int .u8 (bv c)] w fun e w' => e = .returned (.bool true) ∧ Below w.heap.size w w' := by
  have z := bv_ne h
  have hx : gm (gm a (ginv b)) b = a := by rw [gm_assoc, gm_comm (ginv b) b, gm_ginv h, gm_one_right]
  have g1 : (bv (gm (gm a (ginv b)) b) == bv a) = true := beq_self hx
  have g2 : (bv a == 0) = (bv (gm a (ginv b)) == 0) := by
    rw [Bool.eq_iff_iff, show (0 : Int) = bv 0 from rfl, bv_beq, bv_beq]
    constructor
    · intro e
      have e' : a = 0 := by simpa using e
      rw [e', gm_zero_left]; simp
    · intro e
      have e' : gm a (ginv b) = 0 := by simpa using e
      rw [e', gm_zero_left] at hx
      rw [← hx]; simp
  have g3 : ((bv a == 0) == (bv (gm a (ginv b)) == 0)) = true := by rw [g2]; simp
  clear g2 hx
  have f1 : (bv (a ^^^ b) != bv (b ^^^ a)) = false := bne_self (UInt8.xor_comm _ _)
  have f2 : (bv (gm a b) != bv (gm b a)) = false := bne_self (gm_comm _ _)
  have f3 : (bv (gm (gm a b) c) != bv (gm a (gm b c))) = false := bne_self (gm_assoc _ _ _)
  have f4 : (bv (gm (gm a b) c) != bv (gm (gm c b) a)) = false := bne_self (by rw [gm_assoc, gm_comm a, gm_comm b c])
  have f5 : (bv (gm a (b ^^^ c)) != bv (gm a b ^^^ gm a c)) = false := bne_self (gm_xor_right _ _ _)
  have f6 : (bv a != bv a) = false := bne_self rfl
  by_cases hc : c = a
  · have hc' : (bv c == bv a) = true := beq_self hc
    have g4 : (bv (gm b c) != bv (gm b a)) = false := bne_self (by rw [hc])
    clear hc
    go_enter Try.func6, Try.ntmps6
    go_wp2_with fail
    refine (awake1 _).mono ?_
    rintro e w1 ⟨rfl, hb⟩
    go_wp2_with fail
    go_call (add2 a b) as e w' ⟨rfl, rfl⟩
    go_wp2_with fail
    go_call (add2 b a) as e w' ⟨rfl, rfl⟩
    go_wp2_with fail
    go_call (mul2 a b) as e w' ⟨rfl, rfl⟩
    go_wp2_with fail
    go_call (mul2 b a) as e w' ⟨rfl, rfl⟩
    go_wp2_with fail
    go_call (mul2 a b) as e w' ⟨rfl, rfl⟩
    go_wp2_with fail
    go_call (mul2 (gm a b) c) as e w' ⟨rfl, rfl⟩
    go_wp2_with fail
    go_call (mul2 b c) as e w' ⟨rfl, rfl⟩
    go_wp2_with fail
    go_call (mul2 a (gm b c)) as e w' ⟨rfl, rfl⟩
    go_wp2_with fail
    go_call (mul3 a b c) as e w' ⟨rfl, rfl⟩
    go_wp2_with fail
    go_call (mul3 c b a) as e w' ⟨rfl, rfl⟩
    go_wp2_with fail
    go_call (add2 b c) as e w' ⟨rfl, rfl⟩
    go_wp2_with fail
    go_call (mul2 a (b ^^^ c)) as e w' ⟨rfl, rfl⟩
    go_wp2_with fail
    go_call (mul2 a b) as e w' ⟨rfl, rfl⟩
    go_wp2_with fail
    go_call (mul2 a c) as e w' ⟨rfl, rfl⟩
    go_wp2_with fail
    go_call (add2 (gm a b) (gm a c)) as e w' ⟨rfl, rfl⟩
    go_wp2_with fail
    go_call (add2_self a) as e w' ⟨rfl, rfl⟩
    go_wp2_with fail
    go_call (add2_zero a) as e w' ⟨rfl, rfl⟩
    go_wp2_with fail
    go_call (mul2_one a) as e w' ⟨rfl, rfl⟩
    go_wp2_with fail
    go_call (mul2_zero a) as e w' ⟨rfl, rfl⟩
    go_wp2_with fail
    go_call (div_some a b h _) as e w' ⟨rfl, rfl⟩
    go_wp2_with fail
    go_call (mul2 (gm a (ginv b)) b) as e w' ⟨rfl, rfl⟩
    go_wp2_with fail
    go_call (mul2 b c) as e w' ⟨rfl, rfl⟩
    go_wp2_with fail
    go_call (mul2 b a) as e w' ⟨rfl, rfl⟩
    go_wp2_with fail
    go_ret
    exact ⟨rfl, by have hz := hb.size; go_grown⟩
  · have g4 : (bv (gm b c) != bv (gm b a)) = true := by
      rw [bv_bne]
      simpa using fun e => hc (gm_cancel h e)
    clear hc
    go_enter Try.func6, Try.ntmps6
    go_wp2_with fail
    refine (awake1 _).mono ?_
    rintro e w1 ⟨rfl, hb⟩
    go_wp2_with fail
    go_call (add2 a b) as e w' ⟨rfl, rfl⟩
    go_wp2_with fail
    go_call (add2 b a) as e w' ⟨rfl, rfl⟩
    go_wp2_with fail
    go_call (mul2 a b) as e w' ⟨rfl, rfl⟩
    go_wp2_with fail
    go_call (mul2 b a) as e w' ⟨rfl, rfl⟩
    go_wp2_with fail
    go_call (mul2 a b) as e w' ⟨rfl, rfl⟩
    go_wp2_with fail
    go_call (mul2 (gm a b) c) as e w' ⟨rfl, rfl⟩
    go_wp2_with fail
    go_call (mul2 b c) as e w' ⟨rfl, rfl⟩
    go_wp2_with fail
    go_call (mul2 a (gm b c)) as e w' ⟨rfl, rfl⟩
    go_wp2_with fail
    go_call (mul3 a b c) as e w' ⟨rfl, rfl⟩
    go_wp2_with fail
    go_call (mul3 c b a) as e w' ⟨rfl, rfl⟩
    go_wp2_with fail
    go_call (add2 b c) as e w' ⟨rfl, rfl⟩
    go_wp2_with fail
    go_call (mul2 a (b ^^^ c)) as e w' ⟨rfl, rfl⟩
    go_wp2_with fail
    go_call (mul2 a b) as e w' ⟨rfl, rfl⟩
    go_wp2_with fail
    go_call (mul2 a c) as e w' ⟨rfl, rfl⟩
    go_wp2_with fail
    go_call (add2 (gm a b) (gm a c)) as e w' ⟨rfl, rfl⟩
    go_wp2_with fail
    go_call (add2_self a) as e w' ⟨rfl, rfl⟩
    go_wp2_with fail
    go_call (add2_zero a) as e w' ⟨rfl, rfl⟩
    go_wp2_with fail
    go_call (mul2_one a) as e w' ⟨rfl, rfl⟩
    go_wp2_with fail
    go_call (mul2_zero a) as e w' ⟨rfl, rfl⟩
    go_wp2_with fail
    go_call (div_some a b h _) as e w' ⟨rfl, rfl⟩
    go_wp2_with fail
    go_call (mul2 (gm a (ginv b)) b) as e w' ⟨rfl, rfl⟩
    go_wp2_with fail
    go_call (mul2 b c) as e w' ⟨rfl, rfl⟩
    go_wp2_with fail
    go_call (mul2 b a) as e w' ⟨rfl, rfl⟩
    go_wp2_with fail
    go_ret
    exact ⟨rfl, by have hz := hb.size; go_grown⟩
theorem laws_walk (a b c : UInt8) (w : World) :
    Calls Try.prog 6 #[.int .u8 (bv a), .int .u8 (bv b), .int .u8 (bv c)] w fun e w' => e = .returned (.bool true) ∧ Below w.heap.size w w' := by
  by_cases h : b = 0
  · subst h; exact laws_zero a c w
  · exact laws_some a b c h w

/-! ### The frame of 'FieldReckons' -/
namespace fieldReckons
theorem own : ownKnob Try.prog.godebug = none := by kernel_rfl
theorem laidOut : laidOutB Try.prog = true := by kernel_rfl
theorem lifted (os : Os) (started : os.Started) (H : Type) (enc : TypeId × Value → H) :
    ReturnsInHanded {} Try.checked os 3 .any (Rows.fieldReckonsSpec.pre6 enc Try.prog Try.f3 Rows.fieldReckonsRow.domain false) (Rows.fieldReckonsSpec.post enc Try.prog Try.f3 false true false false) := by
  refine returnsInHanded_of_change (C := Try.checked) own started (by kernel_rfl) Try.func3
    (ChangeSpec.witness6 (enc := enc) (C := Try.checked) false ⟨#[], #[.slice none 0 0], []⟩ 8 (by kernel_rfl) (by kernel_rfl) (by kernel_rfl) (by kernel_rfl)) ?_
  intro W base args ds gs before hval0 hW hcnd _
  have hval : ∀ (j : Nat) t v, Try.f3.params[j]? = some t → args[j]? = some v → Value.okWide Try.prog W .any base t v := hval0
  have hW' := hW
  obtain ⟨p, q, hA0, hV, rfl, hfz, hnd⟩ := hW
  have hA : DataW.TrodAll enc Try.prog W 0 (fun _ => true) true Try.f3.params.toList args.toList ds p := hA0
  rw [Try.params3] at hA hval
  obtain ⟨v0, vs0, d0, ds0, p0, q0, hargs, rfl, rfl, h0, q0'⟩ := trodAll_cons hA
  obtain ⟨rfl, rfl, rfl⟩ := trodAll_nil q0'
  obtain rfl : args = #[v0] := by cases args; simp_all
  obtain ⟨rfl, rfl⟩ := trodVars_none hV
  have k0 := h0
  have lt0 : ∀ x ∈ p0, x.block < W.heap.size := by obtain ⟨m, hm⟩ := k0; exact DataW.trod_lt m _ _ _ hm
  obtain ⟨A0, n0, c0, rfl⟩ := okWide_slice Try.underlying22 (hval 0 22 v0 rfl rfl)
  obtain ⟨us0, r0, l0⟩ := bytes_arg Try.underlying22 Try.underlying5 (by kernel_rfl) h0
  clear hA0 hval0
  refine (reckons_walk A0 n0 c0 us0 W r0 l0).mono fun e W' ⟨he, bel⟩ => ?_
  subst he
  exact ⟨_, rfl, _, _, _, [], _, [], hW', trodAll_mk1 (shut_bool Try.underlying4 _), (trodAll_cons_mk (Below.trod laidOut (by kernel_rfl) (of_decide_eq_true (by kernel_rfl)) k0 bel lt0) trodAll_mk0), rfl, bel.frame _, fun h => by cases h⟩

theorem over : Rows.fieldReckonsRow.holds Try.pinned (OpenSpec.ofChange Rows.fieldReckonsSpec) :=
  OpenClaim.holds_of_wide 3 Try.f3 rfl rfl rfl rfl rfl rfl rfl ⟨rfl, rfl, rfl, rfl, rfl⟩ rfl rfl rfl rfl rfl (by kernel_rfl) Try.func3 (by kernel_rfl)
    (of_decide_eq_true (by kernel_rfl)) (by unfold Func.isWrapper; first | (rw [if_pos (by decide +kernel)]; kernel_rfl) | (rw [if_neg (by decide +kernel)]; exact ⟨rfl, rfl⟩))
    (fun os started H enc _ => lifted os started H enc)
/-- The statement. -/
theorem proved : Rows.FieldReckonsSaid := over
end fieldReckons

/-! ### The frame of 'FieldDivides' -/
namespace fieldDivides
theorem own : ownKnob Try.prog.godebug = none := by kernel_rfl
theorem laidOut : laidOutB Try.prog = true := by kernel_rfl
theorem lifted (os : Os) (started : os.Started) (H : Type) (enc : TypeId × Value → H) :
    ReturnsInHanded {} Try.checked os 4 .any (Rows.fieldDividesSpec.pre6 enc Try.prog Try.f4 Rows.fieldDividesRow.domain false) (Rows.fieldDividesSpec.post enc Try.prog Try.f4 false true false false) := by
  refine returnsInHanded_of_change (C := Try.checked) own started (by kernel_rfl) Try.func4
    (ChangeSpec.witness6 (enc := enc) (C := Try.checked) false ⟨#[], #[.int .u8 0, .int .u8 0, .int .i64 0], []⟩ 8 (by kernel_rfl) (by kernel_rfl) (by kernel_rfl) (by kernel_rfl)) ?_
  intro W base args ds gs before hval0 hW hcnd _
  have hval : ∀ (j : Nat) t v, Try.f4.params[j]? = some t → args[j]? = some v → Value.okWide Try.prog W .any base t v := hval0
  have hW' := hW
  obtain ⟨p, q, hA0, hV, rfl, hfz, hnd⟩ := hW
  have hA : DataW.TrodAll enc Try.prog W 0 (fun _ => true) true Try.f4.params.toList args.toList ds p := hA0
  rw [Try.params4] at hA hval
  obtain ⟨v0, vs0, d0, ds0, p0, q0, hargs, rfl, rfl, h0, q0'⟩ := trodAll_cons hA
  obtain ⟨v1, vs1, d1, ds1, p1, q1, rfl, rfl, rfl, h1, q1'⟩ := trodAll_cons q0'
  obtain ⟨v2, vs2, d2, ds2, p2, q2, rfl, rfl, rfl, h2, q2'⟩ := trodAll_cons q1'
  obtain ⟨rfl, rfl, rfl⟩ := trodAll_nil q2'
  obtain rfl : args = #[v0, v1, v2] := by cases args; simp_all
  obtain ⟨rfl, rfl⟩ := trodVars_none hV
  have k0 := h0
  have lt0 : ∀ x ∈ p0, x.block < W.heap.size := by obtain ⟨m, hm⟩ := k0; exact DataW.trod_lt m _ _ _ hm
  have k1 := h1
  have lt1 : ∀ x ∈ p1, x.block < W.heap.size := by obtain ⟨m, hm⟩ := k1; exact DataW.trod_lt m _ _ _ hm
  have k2 := h2
  have lt2 : ∀ x ∈ p2, x.block < W.heap.size := by obtain ⟨m, hm⟩ := k2; exact DataW.trod_lt m _ _ _ hm
  obtain ⟨a0, rfl, rfl, rfl, w0⟩ := open_int Try.underlying5 (hval 0 5 v0 rfl rfl) h0
  obtain ⟨u0, rfl⟩ := byte_of w0
  obtain ⟨a1, rfl, rfl, rfl, w1⟩ := open_int Try.underlying5 (hval 1 5 v1 rfl rfl) h1
  obtain ⟨u1, rfl⟩ := byte_of w1
  obtain ⟨a2, rfl, rfl, rfl, w2⟩ := open_int Try.underlying3 (hval 2 3 v2 rfl rfl) h2
  clear hA0 hval0
  refine (divides_walk u0 u1 a2 W w2).mono fun e W' ⟨he, bel⟩ => ?_
  subst he
  exact ⟨_, rfl, _, _, _, [], _, [], hW', trodAll_mk1 (shut_bool Try.underlying4 _), (trodAll_cons_mk (Below.trod laidOut (by kernel_rfl) (of_decide_eq_true (by kernel_rfl)) k0 bel lt0) (trodAll_cons_mk (Below.trod laidOut (by kernel_rfl) (of_decide_eq_true (by kernel_rfl)) k1 bel lt1) (trodAll_cons_mk (Below.trod laidOut (by kernel_rfl) (of_decide_eq_true (by kernel_rfl)) k2 bel lt2) trodAll_mk0))), rfl, bel.frame _, fun h => by cases h⟩

theorem over : Rows.fieldDividesRow.holds Try.pinned (OpenSpec.ofChange Rows.fieldDividesSpec) :=
  OpenClaim.holds_of_wide 4 Try.f4 rfl rfl rfl rfl rfl rfl rfl ⟨rfl, rfl, rfl, rfl, rfl⟩ rfl rfl rfl rfl rfl (by kernel_rfl) Try.func4 (by kernel_rfl)
    (of_decide_eq_true (by kernel_rfl)) (by unfold Func.isWrapper; first | (rw [if_pos (by decide +kernel)]; kernel_rfl) | (rw [if_neg (by decide +kernel)]; exact ⟨rfl, rfl⟩))
    (fun os started H enc _ => lifted os started H enc)
/-- The statement. -/
theorem proved : Rows.FieldDividesSaid := over
end fieldDivides

/-! ### The frame of 'FieldPowers' -/
namespace fieldPowers
theorem own : ownKnob Try.prog.godebug = none := by kernel_rfl
theorem laidOut : laidOutB Try.prog = true := by kernel_rfl
theorem lifted (os : Os) (started : os.Started) (H : Type) (enc : TypeId × Value → H) :
    ReturnsInHanded {} Try.checked os 5 .any (Rows.fieldPowersSpec.pre6 enc Try.prog Try.f5 Rows.fieldPowersRow.domain false) (Rows.fieldPowersSpec.post enc Try.prog Try.f5 false true false false) := by
  refine returnsInHanded_of_change (C := Try.checked) own started (by kernel_rfl) Try.func5
    (ChangeSpec.witness6 (enc := enc) (C := Try.checked) false ⟨#[], #[.int .u8 0, .int .i64 0], []⟩ 8 (by kernel_rfl) (by kernel_rfl) (by kernel_rfl) (by kernel_rfl)) ?_
  intro W base args ds gs before hval0 hW hcnd _
  have hval : ∀ (j : Nat) t v, Try.f5.params[j]? = some t → args[j]? = some v → Value.okWide Try.prog W .any base t v := hval0
  have hW' := hW
  obtain ⟨p, q, hA0, hV, rfl, hfz, hnd⟩ := hW
  have hA : DataW.TrodAll enc Try.prog W 0 (fun _ => true) true Try.f5.params.toList args.toList ds p := hA0
  rw [Try.params5] at hA hval
  obtain ⟨v0, vs0, d0, ds0, p0, q0, hargs, rfl, rfl, h0, q0'⟩ := trodAll_cons hA
  obtain ⟨v1, vs1, d1, ds1, p1, q1, rfl, rfl, rfl, h1, q1'⟩ := trodAll_cons q0'
  obtain ⟨rfl, rfl, rfl⟩ := trodAll_nil q1'
  obtain rfl : args = #[v0, v1] := by cases args; simp_all
  obtain ⟨rfl, rfl⟩ := trodVars_none hV
  have k0 := h0
  have lt0 : ∀ x ∈ p0, x.block < W.heap.size := by obtain ⟨m, hm⟩ := k0; exact DataW.trod_lt m _ _ _ hm
  have k1 := h1
  have lt1 : ∀ x ∈ p1, x.block < W.heap.size := by obtain ⟨m, hm⟩ := k1; exact DataW.trod_lt m _ _ _ hm
  obtain ⟨a0, rfl, rfl, rfl, w0⟩ := open_int Try.underlying5 (hval 0 5 v0 rfl rfl) h0
  obtain ⟨u0, rfl⟩ := byte_of w0
  obtain ⟨a1, rfl, rfl, rfl, w1⟩ := open_int Try.underlying3 (hval 1 3 v1 rfl rfl) h1
  clear hA0 hval0
  refine (powers_walk u0 a1 W w1).mono fun e W' ⟨he, bel⟩ => ?_
  subst he
  exact ⟨_, rfl, _, _, _, [], _, [], hW', trodAll_mk1 (shut_bool Try.underlying4 _), (trodAll_cons_mk (Below.trod laidOut (by kernel_rfl) (of_decide_eq_true (by kernel_rfl)) k0 bel lt0) (trodAll_cons_mk (Below.trod laidOut (by kernel_rfl) (of_decide_eq_true (by kernel_rfl)) k1 bel lt1) trodAll_mk0)), rfl, bel.frame _, fun h => by cases h⟩

theorem over : Rows.fieldPowersRow.holds Try.pinned (OpenSpec.ofChange Rows.fieldPowersSpec) :=
  OpenClaim.holds_of_wide 5 Try.f5 rfl rfl rfl rfl rfl rfl rfl ⟨rfl, rfl, rfl, rfl, rfl⟩ rfl rfl rfl rfl rfl (by kernel_rfl) Try.func5 (by kernel_rfl)
    (of_decide_eq_true (by kernel_rfl)) (by unfold Func.isWrapper; first | (rw [if_pos (by decide +kernel)]; kernel_rfl) | (rw [if_neg (by decide +kernel)]; exact ⟨rfl, rfl⟩))
    (fun os started H enc _ => lifted os started H enc)
/-- The statement. -/
theorem proved : Rows.FieldPowersSaid := over
end fieldPowers

/-! ### The frame of 'FieldLaws' -/
namespace fieldLaws
theorem own : ownKnob Try.prog.godebug = none := by kernel_rfl
theorem laidOut : laidOutB Try.prog = true := by kernel_rfl
theorem lifted (os : Os) (started : os.Started) (H : Type) (enc : TypeId × Value → H) :
    ReturnsInHanded {} Try.checked os 6 .any (Rows.fieldLawsSpec.pre6 enc Try.prog Try.f6 Rows.fieldLawsRow.domain false) (Rows.fieldLawsSpec.post enc Try.prog Try.f6 false true false false) := by
  refine returnsInHanded_of_change (C := Try.checked) own started (by kernel_rfl) Try.func6
    (ChangeSpec.witness6 (enc := enc) (C := Try.checked) false ⟨#[], #[.int .u8 0, .int .u8 0, .int .u8 0], []⟩ 8 (by kernel_rfl) (by kernel_rfl) (by kernel_rfl) (by kernel_rfl)) ?_
  intro W base args ds gs before hval0 hW hcnd _
  have hval : ∀ (j : Nat) t v, Try.f6.params[j]? = some t → args[j]? = some v → Value.okWide Try.prog W .any base t v := hval0
  have hW' := hW
  obtain ⟨p, q, hA0, hV, rfl, hfz, hnd⟩ := hW
  have hA : DataW.TrodAll enc Try.prog W 0 (fun _ => true) true Try.f6.params.toList args.toList ds p := hA0
  rw [Try.params6] at hA hval
  obtain ⟨v0, vs0, d0, ds0, p0, q0, hargs, rfl, rfl, h0, q0'⟩ := trodAll_cons hA
  obtain ⟨v1, vs1, d1, ds1, p1, q1, rfl, rfl, rfl, h1, q1'⟩ := trodAll_cons q0'
  obtain ⟨v2, vs2, d2, ds2, p2, q2, rfl, rfl, rfl, h2, q2'⟩ := trodAll_cons q1'
  obtain ⟨rfl, rfl, rfl⟩ := trodAll_nil q2'
  obtain rfl : args = #[v0, v1, v2] := by cases args; simp_all
  obtain ⟨rfl, rfl⟩ := trodVars_none hV
  have k0 := h0
  have lt0 : ∀ x ∈ p0, x.block < W.heap.size := by obtain ⟨m, hm⟩ := k0; exact DataW.trod_lt m _ _ _ hm
  have k1 := h1
  have lt1 : ∀ x ∈ p1, x.block < W.heap.size := by obtain ⟨m, hm⟩ := k1; exact DataW.trod_lt m _ _ _ hm
  have k2 := h2
  have lt2 : ∀ x ∈ p2, x.block < W.heap.size := by obtain ⟨m, hm⟩ := k2; exact DataW.trod_lt m _ _ _ hm
  obtain ⟨a0, rfl, rfl, rfl, w0⟩ := open_int Try.underlying5 (hval 0 5 v0 rfl rfl) h0
  obtain ⟨u0, rfl⟩ := byte_of w0
  obtain ⟨a1, rfl, rfl, rfl, w1⟩ := open_int Try.underlying5 (hval 1 5 v1 rfl rfl) h1
  obtain ⟨u1, rfl⟩ := byte_of w1
  obtain ⟨a2, rfl, rfl, rfl, w2⟩ := open_int Try.underlying5 (hval 2 5 v2 rfl rfl) h2
  obtain ⟨u2, rfl⟩ := byte_of w2
  clear hA0 hval0
  refine (laws_walk u0 u1 u2 W ).mono fun e W' ⟨he, bel⟩ => ?_
  subst he
  exact ⟨_, rfl, _, _, _, [], _, [], hW', trodAll_mk1 (shut_bool Try.underlying4 _), (trodAll_cons_mk (Below.trod laidOut (by kernel_rfl) (of_decide_eq_true (by kernel_rfl)) k0 bel lt0) (trodAll_cons_mk (Below.trod laidOut (by kernel_rfl) (of_decide_eq_true (by kernel_rfl)) k1 bel lt1) (trodAll_cons_mk (Below.trod laidOut (by kernel_rfl) (of_decide_eq_true (by kernel_rfl)) k2 bel lt2) trodAll_mk0))), rfl, bel.frame _, fun h => by cases h⟩

theorem over : Rows.fieldLawsRow.holds Try.pinned (OpenSpec.ofChange Rows.fieldLawsSpec) :=
  OpenClaim.holds_of_wide 6 Try.f6 rfl rfl rfl rfl rfl rfl rfl ⟨rfl, rfl, rfl, rfl, rfl⟩ rfl rfl rfl rfl rfl (by kernel_rfl) Try.func6 (by kernel_rfl)
    (of_decide_eq_true (by kernel_rfl)) (by unfold Func.isWrapper; first | (rw [if_pos (by decide +kernel)]; kernel_rfl) | (rw [if_neg (by decide +kernel)]; exact ⟨rfl, rfl⟩))
    (fun os started H enc _ => lifted os started H enc)
/-- The statement. -/
theorem proved : Rows.FieldLawsSaid := over
end fieldLaws
end Go.Proofs.Ytghmaaeglejmbaa
