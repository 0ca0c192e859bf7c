import Derived.Test.YthfbgcjfnpajjaaDoorRefC
import Derived.Test.YthfbgcjfnpajjaaDoorL06B
/- NatLaws: its walk. -/
namespace Go.Proofs.YthfbgcjfnpajjaaDoor
open Go.RowKit
set_option linter.unusedVariables false
set_option maxRecDepth 100000

/-- A number of at most k bytes. -/
def LB (k N : Nat) : Prop := N < 256 ^ k
theorem LB.mono {k j N : Nat} (h : LB k N) (hj : k ≤ j) : LB j N := Nat.lt_of_lt_of_le h (Nat.pow_le_pow_right (by omega) hj)
theorem LB.mul {a b N M : Nat} (h : LB a N) (h2 : LB b M) : LB (a + b) (N * M) := by
  unfold LB at *
  rw [Nat.pow_add]
  have h0 : 0 < 256 ^ b := Nat.pow_pos (by omega)
  exact Nat.mul_lt_mul_of_lt_of_le h (Nat.le_of_lt h2) h0
theorem LB.add {a N M : Nat} (h : LB a N) (h2 : LB a M) : LB (a + 1) (N + M) := by
  unfold LB at *
  rw [Nat.pow_succ]
  omega
theorem LB.one : LB 1 1 := by unfold LB; decide
theorem LB.pow {a N : Nat} (h : LB a N) (ha : 1 ≤ a) (i : Nat) : LB (a * i + 1) (N ^ i) := by
  induction i with
  | zero => rw [Nat.pow_zero, Nat.mul_zero]; exact LB.one
  | succ i ih =>
    rw [Nat.pow_succ, Nat.mul_succ, show a * i + a + 1 = (a * i + 1) + a by omega]
    exact ih.mul h
theorem LB.bd {k N : Nat} (h : LB k N) (hk : k ≤ 4000) : N < BD := Nat.lt_trans h (pow_lt_bd (by unfold K4095; omega))
theorem LB.of (us : List UInt8) {k : Nat} (h : us.length ≤ k) : LB k (leN us) := by
  have := num_lt (nb_lt us)
  rw [nb_length] at this
  exact Nat.lt_of_lt_of_le this (Nat.pow_le_pow_right (by omega) h)
theorem mul_ok3 {w : World} {N M K P n1 c1 n2 c2 n3 c3 : Nat} {A1 A2 A3 : Option Addr} {t : TypeId} (hP : opAll (fun s N => s * N) 1 [N, M, K] = some P) (h1 : NatIs w w.heap.size (.agg #[.slice A1 n1 c1]) N) (h2 : NatIs w w.heap.size (.agg #[.slice A2 n2 c2]) M) (h3 : NatIs w w.heap.size (.agg #[.slice A3 n3 c3]) K) :
    Calls Tryd.prog 21 #[.slice (some ⟨w.heap.size, 0, none⟩) 3 3] (w.alloc (.cells #[.slice A1 n1 c1, .slice A2 n2 c2, .slice A3 n3 c3] t)) (GivesPair P (w.alloc (.cells #[.slice A1 n1 c1, .slice A2 n2 c2, .slice A3 n3 c3] t))) := by
  have := mulall_any (c := 3) (nats_three (Blk.new w t _) (h1.step (balloc w _)) (h2.step (balloc w _)) (h3.step (balloc w _))) (by omega)
  rwa [hP] at this
theorem add_ok3 {w : World} {N M K P n1 c1 n2 c2 n3 c3 : Nat} {A1 A2 A3 : Option Addr} {t : TypeId} (hP : opAll (fun s N => s + N) 0 [N, M, K] = some P) (h1 : NatIs w w.heap.size (.agg #[.slice A1 n1 c1]) N) (h2 : NatIs w w.heap.size (.agg #[.slice A2 n2 c2]) M) (h3 : NatIs w w.heap.size (.agg #[.slice A3 n3 c3]) K) :
    Calls Tryd.prog 20 #[.slice (some ⟨w.heap.size, 0, none⟩) 3 3] (w.alloc (.cells #[.slice A1 n1 c1, .slice A2 n2 c2, .slice A3 n3 c3] t)) (GivesPair P (w.alloc (.cells #[.slice A1 n1 c1, .slice A2 n2 c2, .slice A3 n3 c3] t))) := by
  have := addall_any (c := 3) (nats_three (Blk.new w t _) (h1.step (balloc w _)) (h2.step (balloc w _)) (h3.step (balloc w _))) (by omega)
  rwa [hP] at this
theorem sum3 {N M K k : Nat} (h1 : LB k N) (h2 : LB k M) (h3 : LB k K) (hk : k ≤ 3000) : opAll (fun s N => s + N) 0 [N, M, K] = some (N + M + K) := by
  have := op_three (op := fun s N => s + N) (s := 0) (N := N) (M := M) (K := K) (by simpa using h1.bd (by omega)) (by simpa using (h1.add h2).bd (by omega)) (by simpa using ((h1.add h2).add (h3.mono (by omega))).bd (by omega))
  simpa using this
theorem sum2 {N M k : Nat} (h1 : LB k N) (h2 : LB k M) (hk : k ≤ 3000) : opAll (fun s N => s + N) 0 [N, M] = some (N + M) := by
  have := op_two (op := fun s N => s + N) (s := 0) (N := N) (M := M) (by simpa using h1.bd (by omega)) (by simpa using (h1.add h2).bd (by omega))
  simpa using this
theorem prod3 {N M K a b c : Nat} (h1 : LB a N) (h2 : LB b M) (h3 : LB c K) (hk : a + b + c ≤ 3000) : opAll (fun s N => s * N) 1 [N, M, K] = some (N * M * K) := by
  have := op_three (op := fun s N => s * N) (s := 1) (N := N) (M := M) (K := K) (by simpa using h1.bd (by omega)) (by simpa using (h1.mul h2).bd (by omega)) (by simpa using ((h1.mul h2).mul h3).bd (by omega))
  simpa using this
theorem prod2 {N M a b : Nat} (h1 : LB a N) (h2 : LB b M) (hk : a + b ≤ 3000) : opAll (fun s N => s * N) 1 [N, M] = some (N * M) := by
  have := op_two (op := fun s N => s * N) (s := 1) (N := N) (M := M) (by simpa using h1.bd (by omega)) (by simpa using (h1.mul h2).bd (by omega))
  simpa using this
theorem cmpN_neg (x y : Nat) : cmpN x y = - cmpN y x := by
  unfold cmpN
  split <;> split <;> omega
theorem cmpN_bd (x y : Nat) : -1 ≤ cmpN x y ∧ cmpN x y ≤ 1 := by
  unfold cmpN
  split
  · omega
  · split <;> omega
set_option maxHeartbeats 4000000 in
theorem laws6_main (A : Option Addr) (n c : Nat) (us : List UInt8) (A2 : Option Addr) (n2 c2 : Nat) (us2 : List UInt8) (A3 : Option Addr) (n3 c3 : Nat) (us3 : List UInt8) (u v : UInt8) (i k : Nat) (w : World) (r : Rd w w.heap.size A n us) (r2 : Rd w w.heap.size A2 n2 us2) (r3 : Rd w w.heap.size A3 n3 us3) (l1 : n ≤ 60) (l2 : n2 ≤ 60) (l3 : n3 ≤ 60) (hc1 : n ≤ c) (hc2 : n2 ≤ c2) (hc3 : n3 ≤ c3) (hd1 : c ≤ 9223372036854775807) (hd2 : c2 ≤ 9223372036854775807) (hd3 : c3 ≤ 9223372036854775807) (hu : bv u % 10 = (i : Int)) (hv : bv v % 10 = (k : Int)) :
    Calls Tryd.prog 5 #[.slice A n c, .slice A2 n2 c2, .slice A3 n3 c3, .int .u8 (bv u), .int .u8 (bv v)] w fun e w' => e = .returned (.bool true) ∧ Below w.heap.size w w' := by
  have BX := Lib.hid (LB.of us (k := 60) (by rw [r.1]; exact l1))
  have BY := Lib.hid (LB.of us2 (k := 60) (by rw [r2.1]; exact l2))
  have BZ := Lib.hid (LB.of us3 (k := 60) (by rw [r3.1]; exact l3))
  have C1 := fun X (hX : Below w.heap.size w X) => to_any (r.step hX) (by omega) hc1 hd1
  have C2 := fun X (hX : Below w.heap.size w X) => to_any (r2.step hX) (by omega) hc2 hd2
  have C3 := fun X (hX : Below w.heap.size w X) => to_any (r3.step hX) (by omega) hc3 hd3
  have HC1 := Lib.hid C1
  have HC2 := Lib.hid C2
  have HC3 := Lib.hid C3
  clear C1 C2 C3 r r2 r3
  generalize leN us = X at *
  generalize leN us2 = Y at *
  generalize leN us3 = Z at *
  have hb0 := bv_nn u
  have hb1 := bv_nn v
  have hi10 : i < 10 := by omega
  have hk10 : k < 10 := by omega
  have hub := bv_lt u
  have hvb := bv_lt v
  go_enter Tryd.func5, Tryd.ntmps5
  go_wp2_with fail
  refine (awake6 _).mono ?_
  rintro e w1 ⟨rfl, k1⟩
  go_wp2_with fail
  refine (HC1.out _ k1).mono ?_
  rintro e w2 ⟨v2, rfl, h2, b2⟩
  obtain ⟨A11, n11, c11, rfl, h11⟩ := h2.open_
  have k2 := bstep k1 b2
  clear b2 k1
  go_wp2_with fail
  refine (HC2.out _ k2).mono ?_
  rintro e w3 ⟨v3, rfl, h3, b3⟩
  obtain ⟨A12, n12, c12, rfl, h12⟩ := h3.open_
  have h11 := h11.step b3
  have k3 := bstep k2 b3
  clear b3 k2
  go_wp2_with fail
  refine (HC3.out _ k3).mono ?_
  rintro e w4 ⟨v4, rfl, h4, b4⟩
  obtain ⟨A13, n13, c13, rfl, h13⟩ := h4.open_
  have h11 := h11.step b4
  have h12 := h12.step b4
  have k4 := bstep k3 b4
  clear b4 k3 HC1 HC2 HC3
  have bb := bstep (bstep (balloc w4 (.cells #[.slice A11 n11 c11] 27)) (balloc _ (.cells #[.slice A12 n12 c12] 27))) (balloc _ (.cells #[.slice A13 n13 c13] 27))
  have X11 := Lib.hid (((Box.new h11).step (balloc _ (.cells #[.slice A12 n12 c12] 27))).step (balloc _ (.cells #[.slice A13 n13 c13] 27)))
  have X12 := Lib.hid ((Box.new (h12.step (balloc w4 (.cells #[.slice A11 n11 c11] 27)))).step (balloc _ (.cells #[.slice A13 n13 c13] 27)))
  have X13 := Lib.hid (Box.new ((h13.step (balloc w4 (.cells #[.slice A11 n11 c11] 27))).step (balloc _ (.cells #[.slice A12 n12 c12] 27))))
  have k5 := bstep k4 bb
  simp only [World.size_alloc] at X12 X13
  have e14 := Lib.hid (sum3 BX.out BY.out BZ.out (by omega))
  have C14 := add_ok3 (t := 27) e14.out (h11.step bb) (h12.step bb) (h13.step bb)
  clear h11 h12 h13 bb k4
  simp only [World.size_alloc] at C14
  go_wp2_with fail
  refine C14.mono ?_
  rintro e w14 ⟨v14, rfl, h14, b14⟩
  obtain ⟨A14, n14, c14, rfl, h14⟩ := h14.open_
  have kk := bstep (balloc _ (.cells #[.slice A11 n11 c11, .slice A12 n12 c12, .slice A13 n13 c13] 27)) b14
  have k14 := bstep k5 kk
  replace X11 := Lib.hid (X11.out.step kk)
  replace X12 := Lib.hid (X12.out.step kk)
  replace X13 := Lib.hid (X13.out.step kk)
  clear C14 kk b14 k5
  have bn := balloc w14 (.cells #[.slice A14 n14 c14] 27)
  obtain ⟨A13, n13, c13, P13, H13⟩ := X13.out
  have z13 := (blk_cell P13).1
  have lt13 := P13.lt
  obtain ⟨A12, n12, c12, P12, H12⟩ := X12.out
  have z12 := (blk_cell P12).1
  have lt12 := P12.lt
  obtain ⟨A11, n11, c11, P11, H11⟩ := X11.out
  have z11 := (blk_cell P11).1
  have lt11 := P11.lt
  have e16 := Lib.hid (sum3 BZ.out BY.out BX.out (by omega))
  have C16 := add_ok3 (t := 27) e16.out (H13.step bn) (H12.step bn) (H11.step bn)
  simp only [World.size_alloc] at C16
  replace X11 := Lib.hid (X11.out.step bn)
  replace X12 := Lib.hid (X12.out.step bn)
  replace X13 := Lib.hid (X13.out.step bn)
  have X14 := Lib.hid (Box.new h14)
  have kn14 := bstep k14 bn
  clear bn k14 h14 H13 H12 H11
  go_wp2_with fail
  clear z13 lt13 P13 z12 lt12 P12 z11 lt11 P11
  generalize w14.heap.size = g14 at *
  refine C16.mono ?_
  rintro e w16 ⟨v16, rfl, h16, b16⟩
  obtain ⟨A16, n16, c16, rfl, h16⟩ := h16.open_
  have kk := bstep (balloc _ (.cells #[.slice A13 n13 c13, .slice A12 n12 c12, .slice A11 n11 c11] 27)) b16
  have k16 := bstep kn14 kk
  replace X11 := Lib.hid (X11.out.step kk)
  replace X12 := Lib.hid (X12.out.step kk)
  replace X13 := Lib.hid (X13.out.step kk)
  replace X14 := Lib.hid (X14.out.step kk)
  clear C16 kk b16 kn14
  have bn := balloc w16 (.cells #[.slice A16 n16 c16] 27)
  obtain ⟨A11, n11, c11, P11, H11⟩ := X11.out
  have z11 := (blk_cell P11).1
  have lt11 := P11.lt
  obtain ⟨A12, n12, c12, P12, H12⟩ := X12.out
  have z12 := (blk_cell P12).1
  have lt12 := P12.lt
  obtain ⟨A13, n13, c13, P13, H13⟩ := X13.out
  have z13 := (blk_cell P13).1
  have lt13 := P13.lt
  have e18 := Lib.hid (prod3 BX.out BY.out BZ.out (by omega))
  have C18 := mul_ok3 (t := 27) e18.out (H11.step bn) (H12.step bn) (H13.step bn)
  simp only [World.size_alloc] at C18
  replace X11 := Lib.hid (X11.out.step bn)
  replace X12 := Lib.hid (X12.out.step bn)
  replace X13 := Lib.hid (X13.out.step bn)
  replace X14 := Lib.hid (X14.out.step bn)
  have X16 := Lib.hid (Box.new h16)
  have kn16 := bstep k16 bn
  clear bn k16 h16 H11 H12 H13
  go_wp2_with fail
  clear z11 lt11 P11 z12 lt12 P12 z13 lt13 P13
  generalize w16.heap.size = g16 at *
  refine C18.mono ?_
  rintro e w18 ⟨v18, rfl, h18, b18⟩
  obtain ⟨A18, n18, c18, rfl, h18⟩ := h18.open_
  have kk := bstep (balloc _ (.cells #[.slice A11 n11 c11, .slice A12 n12 c12, .slice A13 n13 c13] 27)) b18
  have k18 := bstep kn16 kk
  replace X11 := Lib.hid (X11.out.step kk)
  replace X12 := Lib.hid (X12.out.step kk)
  replace X13 := Lib.hid (X13.out.step kk)
  replace X14 := Lib.hid (X14.out.step kk)
  replace X16 := Lib.hid (X16.out.step kk)
  clear C18 kk b18 kn16
  have bn := balloc w18 (.cells #[.slice A18 n18 c18] 27)
  obtain ⟨A13, n13, c13, P13, H13⟩ := X13.out
  have z13 := (blk_cell P13).1
  have lt13 := P13.lt
  obtain ⟨A11, n11, c11, P11, H11⟩ := X11.out
  have z11 := (blk_cell P11).1
  have lt11 := P11.lt
  obtain ⟨A12, n12, c12, P12, H12⟩ := X12.out
  have z12 := (blk_cell P12).1
  have lt12 := P12.lt
  have e20 := Lib.hid (prod3 BZ.out BX.out BY.out (by omega))
  have C20 := mul_ok3 (t := 27) e20.out (H13.step bn) (H11.step bn) (H12.step bn)
  simp only [World.size_alloc] at C20
  replace X11 := Lib.hid (X11.out.step bn)
  replace X12 := Lib.hid (X12.out.step bn)
  replace X13 := Lib.hid (X13.out.step bn)
  replace X14 := Lib.hid (X14.out.step bn)
  replace X16 := Lib.hid (X16.out.step bn)
  have X18 := Lib.hid (Box.new h18)
  have kn18 := bstep k18 bn
  clear bn k18 h18 H13 H11 H12
  go_wp2_with fail
  clear z13 lt13 P13 z11 lt11 P11 z12 lt12 P12
  generalize w18.heap.size = g18 at *
  refine C20.mono ?_
  rintro e w20 ⟨v20, rfl, h20, b20⟩
  obtain ⟨A20, n20, c20, rfl, h20⟩ := h20.open_
  have kk := bstep (balloc _ (.cells #[.slice A13 n13 c13, .slice A11 n11 c11, .slice A12 n12 c12] 27)) b20
  have k20 := bstep kn18 kk
  replace X11 := Lib.hid (X11.out.step kk)
  replace X12 := Lib.hid (X12.out.step kk)
  replace X13 := Lib.hid (X13.out.step kk)
  replace X14 := Lib.hid (X14.out.step kk)
  replace X16 := Lib.hid (X16.out.step kk)
  replace X18 := Lib.hid (X18.out.step kk)
  clear C20 kk b20 kn18
  have bn := balloc w20 (.cells #[.slice A20 n20 c20] 27)
  obtain ⟨A12, n12, c12, P12, H12⟩ := X12.out
  have z12 := (blk_cell P12).1
  have lt12 := P12.lt
  obtain ⟨A13, n13, c13, P13, H13⟩ := X13.out
  have z13 := (blk_cell P13).1
  have lt13 := P13.lt
  have e22 := Lib.hid (sum2 BY.out BZ.out (by omega))
  have C22 := add_ok (t := 27) e22.out (H12.step bn) (H13.step bn)
  simp only [World.size_alloc] at C22
  replace X11 := Lib.hid (X11.out.step bn)
  replace X12 := Lib.hid (X12.out.step bn)
  replace X13 := Lib.hid (X13.out.step bn)
  replace X14 := Lib.hid (X14.out.step bn)
  replace X16 := Lib.hid (X16.out.step bn)
  replace X18 := Lib.hid (X18.out.step bn)
  have X20 := Lib.hid (Box.new h20)
  have kn20 := bstep k20 bn
  clear bn k20 h20 H12 H13
  go_wp2_with fail
  clear z12 lt12 P12 z13 lt13 P13
  generalize w20.heap.size = g20 at *
  refine C22.mono ?_
  rintro e w22 ⟨v22, rfl, h22, b22⟩
  obtain ⟨A22, n22, c22, rfl, h22⟩ := h22.open_
  have kk := bstep (balloc _ (.cells #[.slice A12 n12 c12, .slice A13 n13 c13] 27)) b22
  have k22 := bstep kn20 kk
  replace X11 := Lib.hid (X11.out.step kk)
  replace X12 := Lib.hid (X12.out.step kk)
  replace X13 := Lib.hid (X13.out.step kk)
  replace X14 := Lib.hid (X14.out.step kk)
  replace X16 := Lib.hid (X16.out.step kk)
  replace X18 := Lib.hid (X18.out.step kk)
  replace X20 := Lib.hid (X20.out.step kk)
  clear C22 kk b22 kn20
  have bn := balloc w22 (.cells #[.slice A22 n22 c22] 27)
  obtain ⟨A11, n11, c11, P11, H11⟩ := X11.out
  have z11 := (blk_cell P11).1
  have lt11 := P11.lt
  have e24 := Lib.hid (prod2 BX.out (BY.out.add BZ.out) (by omega))
  have C24 := mul_ok (t := 27) e24.out (H11.step bn) (h22.step bn)
  simp only [World.size_alloc] at C24
  replace X11 := Lib.hid (X11.out.step bn)
  replace X12 := Lib.hid (X12.out.step bn)
  replace X13 := Lib.hid (X13.out.step bn)
  replace X14 := Lib.hid (X14.out.step bn)
  replace X16 := Lib.hid (X16.out.step bn)
  replace X18 := Lib.hid (X18.out.step bn)
  replace X20 := Lib.hid (X20.out.step bn)
  have X22 := Lib.hid (Box.new h22)
  have kn22 := bstep k22 bn
  clear bn k22 h22 H11
  go_wp2_with fail
  clear z11 lt11 P11
  generalize w22.heap.size = g22 at *
  refine C24.mono ?_
  rintro e w24 ⟨v24, rfl, h24, b24⟩
  obtain ⟨A24, n24, c24, rfl, h24⟩ := h24.open_
  have kk := bstep (balloc _ (.cells #[.slice A11 n11 c11, .slice A22 n22 c22] 27)) b24
  have k24 := bstep kn22 kk
  replace X11 := Lib.hid (X11.out.step kk)
  replace X12 := Lib.hid (X12.out.step kk)
  replace X13 := Lib.hid (X13.out.step kk)
  replace X14 := Lib.hid (X14.out.step kk)
  replace X16 := Lib.hid (X16.out.step kk)
  replace X18 := Lib.hid (X18.out.step kk)
  replace X20 := Lib.hid (X20.out.step kk)
  replace X22 := Lib.hid (X22.out.step kk)
  clear C24 kk b24 kn22
  have bn := balloc w24 (.cells #[.slice A24 n24 c24] 27)
  obtain ⟨A11, n11, c11, P11, H11⟩ := X11.out
  have z11 := (blk_cell P11).1
  have lt11 := P11.lt
  obtain ⟨A12, n12, c12, P12, H12⟩ := X12.out
  have z12 := (blk_cell P12).1
  have lt12 := P12.lt
  have e26 := Lib.hid (prod2 BX.out BY.out (by omega))
  have C26 := mul_ok (t := 27) e26.out (H11.step bn) (H12.step bn)
  simp only [World.size_alloc] at C26
  replace X11 := Lib.hid (X11.out.step bn)
  replace X12 := Lib.hid (X12.out.step bn)
  replace X13 := Lib.hid (X13.out.step bn)
  replace X14 := Lib.hid (X14.out.step bn)
  replace X16 := Lib.hid (X16.out.step bn)
  replace X18 := Lib.hid (X18.out.step bn)
  replace X20 := Lib.hid (X20.out.step bn)
  replace X22 := Lib.hid (X22.out.step bn)
  have X24 := Lib.hid (Box.new h24)
  have kn24 := bstep k24 bn
  clear bn k24 h24 H11 H12
  go_wp2_with fail
  clear z11 lt11 P11 z12 lt12 P12
  generalize w24.heap.size = g24 at *
  refine C26.mono ?_
  rintro e w26 ⟨v26, rfl, h26, b26⟩
  obtain ⟨A26, n26, c26, rfl, h26⟩ := h26.open_
  have kk := bstep (balloc _ (.cells #[.slice A11 n11 c11, .slice A12 n12 c12] 27)) b26
  have k26 := bstep kn24 kk
  replace X11 := Lib.hid (X11.out.step kk)
  replace X12 := Lib.hid (X12.out.step kk)
  replace X13 := Lib.hid (X13.out.step kk)
  replace X14 := Lib.hid (X14.out.step kk)
  replace X16 := Lib.hid (X16.out.step kk)
  replace X18 := Lib.hid (X18.out.step kk)
  replace X20 := Lib.hid (X20.out.step kk)
  replace X22 := Lib.hid (X22.out.step kk)
  replace X24 := Lib.hid (X24.out.step kk)
  clear C26 kk b26 kn24
  have bn := balloc w26 (.cells #[.slice A26 n26 c26] 27)
  obtain ⟨A11, n11, c11, P11, H11⟩ := X11.out
  have z11 := (blk_cell P11).1
  have lt11 := P11.lt
  obtain ⟨A13, n13, c13, P13, H13⟩ := X13.out
  have z13 := (blk_cell P13).1
  have lt13 := P13.lt
  have e28 := Lib.hid (prod2 BX.out BZ.out (by omega))
  have C28 := mul_ok (t := 27) e28.out (H11.step bn) (H13.step bn)
  simp only [World.size_alloc] at C28
  replace X11 := Lib.hid (X11.out.step bn)
  replace X12 := Lib.hid (X12.out.step bn)
  replace X13 := Lib.hid (X13.out.step bn)
  replace X14 := Lib.hid (X14.out.step bn)
  replace X16 := Lib.hid (X16.out.step bn)
  replace X18 := Lib.hid (X18.out.step bn)
  replace X20 := Lib.hid (X20.out.step bn)
  replace X22 := Lib.hid (X22.out.step bn)
  replace X24 := Lib.hid (X24.out.step bn)
  have X26 := Lib.hid (Box.new h26)
  have kn26 := bstep k26 bn
  clear bn k26 h26 H11 H13
  go_wp2_with fail
  clear z11 lt11 P11 z13 lt13 P13
  generalize w26.heap.size = g26 at *
  refine C28.mono ?_
  rintro e w28 ⟨v28, rfl, h28, b28⟩
  obtain ⟨A28, n28, c28, rfl, h28⟩ := h28.open_
  have kk := bstep (balloc _ (.cells #[.slice A11 n11 c11, .slice A13 n13 c13] 27)) b28
  have k28 := bstep kn26 kk
  replace X11 := Lib.hid (X11.out.step kk)
  replace X12 := Lib.hid (X12.out.step kk)
  replace X13 := Lib.hid (X13.out.step kk)
  replace X14 := Lib.hid (X14.out.step kk)
  replace X16 := Lib.hid (X16.out.step kk)
  replace X18 := Lib.hid (X18.out.step kk)
  replace X20 := Lib.hid (X20.out.step kk)
  replace X22 := Lib.hid (X22.out.step kk)
  replace X24 := Lib.hid (X24.out.step kk)
  replace X26 := Lib.hid (X26.out.step kk)
  clear C28 kk b28 kn26
  have bn := balloc w28 (.cells #[.slice A28 n28 c28] 27)
  obtain ⟨A26, n26, c26, P26, H26⟩ := X26.out
  have z26 := (blk_cell P26).1
  have lt26 := P26.lt
  have e30 := Lib.hid (sum2 (BX.out.mul BY.out) (BX.out.mul BZ.out) (by omega))
  have C30 := add_ok (t := 27) e30.out (H26.step bn) (h28.step bn)
  simp only [World.size_alloc] at C30
  replace X11 := Lib.hid (X11.out.step bn)
  replace X12 := Lib.hid (X12.out.step bn)
  replace X13 := Lib.hid (X13.out.step bn)
  replace X14 := Lib.hid (X14.out.step bn)
  replace X16 := Lib.hid (X16.out.step bn)
  replace X18 := Lib.hid (X18.out.step bn)
  replace X20 := Lib.hid (X20.out.step bn)
  replace X22 := Lib.hid (X22.out.step bn)
  replace X24 := Lib.hid (X24.out.step bn)
  replace X26 := Lib.hid (X26.out.step bn)
  have X28 := Lib.hid (Box.new h28)
  have kn28 := bstep k28 bn
  clear bn k28 h28 H26
  go_wp2_with fail
  clear z26 lt26 P26
  generalize w28.heap.size = g28 at *
  refine C30.mono ?_
  rintro e w30 ⟨v30, rfl, h30, b30⟩
  obtain ⟨A30, n30, c30, rfl, h30⟩ := h30.open_
  have kk := bstep (balloc _ (.cells #[.slice A26 n26 c26, .slice A28 n28 c28] 27)) b30
  have k30 := bstep kn28 kk
  replace X11 := Lib.hid (X11.out.step kk)
  replace X12 := Lib.hid (X12.out.step kk)
  replace X13 := Lib.hid (X13.out.step kk)
  replace X14 := Lib.hid (X14.out.step kk)
  replace X16 := Lib.hid (X16.out.step kk)
  replace X18 := Lib.hid (X18.out.step kk)
  replace X20 := Lib.hid (X20.out.step kk)
  replace X22 := Lib.hid (X22.out.step kk)
  replace X24 := Lib.hid (X24.out.step kk)
  replace X26 := Lib.hid (X26.out.step kk)
  replace X28 := Lib.hid (X28.out.step kk)
  clear C30 kk b30 kn28
  have bn := balloc w30 (.cells #[.slice A30 n30 c30] 27)
  obtain ⟨A22, n22, c22, P22, H22⟩ := X22.out
  have z22 := (blk_cell P22).1
  have lt22 := P22.lt
  obtain ⟨A13, n13, c13, P13, H13⟩ := X13.out
  have z13 := (blk_cell P13).1
  have lt13 := P13.lt
  have C32 := sub_any (H22.step bn) (H13.step bn) (Nat.le_add_left Z Y)
  replace X11 := Lib.hid (X11.out.step bn)
  replace X12 := Lib.hid (X12.out.step bn)
  replace X13 := Lib.hid (X13.out.step bn)
  replace X14 := Lib.hid (X14.out.step bn)
  replace X16 := Lib.hid (X16.out.step bn)
  replace X18 := Lib.hid (X18.out.step bn)
  replace X20 := Lib.hid (X20.out.step bn)
  replace X22 := Lib.hid (X22.out.step bn)
  replace X24 := Lib.hid (X24.out.step bn)
  replace X26 := Lib.hid (X26.out.step bn)
  replace X28 := Lib.hid (X28.out.step bn)
  have X30 := Lib.hid (Box.new h30)
  have kn30 := bstep k30 bn
  clear bn k30 h30 H22 H13
  go_wp2_with fail
  clear z22 lt22 P22 z13 lt13 P13
  generalize w30.heap.size = g30 at *
  refine C32.mono ?_
  rintro e w32 ⟨v32, rfl, h32, b32⟩
  obtain ⟨A32, n32, c32, rfl, h32⟩ := h32.open_
  have kk := b32
  have k32 := bstep kn30 kk
  replace X11 := Lib.hid (X11.out.step kk)
  replace X12 := Lib.hid (X12.out.step kk)
  replace X13 := Lib.hid (X13.out.step kk)
  replace X14 := Lib.hid (X14.out.step kk)
  replace X16 := Lib.hid (X16.out.step kk)
  replace X18 := Lib.hid (X18.out.step kk)
  replace X20 := Lib.hid (X20.out.step kk)
  replace X22 := Lib.hid (X22.out.step kk)
  replace X24 := Lib.hid (X24.out.step kk)
  replace X26 := Lib.hid (X26.out.step kk)
  replace X28 := Lib.hid (X28.out.step kk)
  replace X30 := Lib.hid (X30.out.step kk)
  clear C32 kk b32 kn30
  have bn := balloc w32 (.cells #[.slice A32 n32 c32] 27)
  replace X11 := Lib.hid (X11.out.step bn)
  replace X12 := Lib.hid (X12.out.step bn)
  replace X13 := Lib.hid (X13.out.step bn)
  replace X14 := Lib.hid (X14.out.step bn)
  replace X16 := Lib.hid (X16.out.step bn)
  replace X18 := Lib.hid (X18.out.step bn)
  replace X20 := Lib.hid (X20.out.step bn)
  replace X22 := Lib.hid (X22.out.step bn)
  replace X24 := Lib.hid (X24.out.step bn)
  replace X26 := Lib.hid (X26.out.step bn)
  replace X28 := Lib.hid (X28.out.step bn)
  replace X30 := Lib.hid (X30.out.step bn)
  have X32 := Lib.hid (Box.new h32)
  have kn32 := bstep k32 bn
  clear bn k32 h32 
  go_wp2_with fail
  generalize w32.heap.size = g32 at *
  generalize w32.alloc (.cells #[.slice A32 n32 c32] 27) = W at *
  have X11w := X11
  obtain ⟨A14, n14, c14, P14, H14⟩ := X14.out
  obtain ⟨A16, n16, c16, P16, H16⟩ := X16.out
  obtain ⟨A18, n18, c18, P18, H18⟩ := X18.out
  obtain ⟨A20, n20, c20, P20, H20⟩ := X20.out
  obtain ⟨A24, n24, c24, P24, H24⟩ := X24.out
  obtain ⟨A30, n30, c30, P30, H30⟩ := X30.out
  obtain ⟨A32, n32, c32, P32, H32⟩ := X32.out
  obtain ⟨A12, n12, c12, P12, H12⟩ := X12.out
  obtain ⟨A11, n11, c11, P11, H11⟩ := X11.out
  have z14 := (blk_cell P14).1
  have z16 := (blk_cell P16).1
  have z18 := (blk_cell P18).1
  have z20 := (blk_cell P20).1
  have z24 := (blk_cell P24).1
  have z30 := (blk_cell P30).1
  have z32 := (blk_cell P32).1
  have z12 := (blk_cell P12).1
  have z11 := (blk_cell P11).1
  have HK : Hid (∀ w', Below W.heap.size W w' → (Below W.heap.size W w' ∧ w'.cell? ⟨g14, 0, none⟩ = some (.slice A14 n14 c14) ∧ w'.cell? ⟨g16, 0, none⟩ = some (.slice A16 n16 c16) ∧ w'.cell? ⟨g18, 0, none⟩ = some (.slice A18 n18 c18) ∧ w'.cell? ⟨g20, 0, none⟩ = some (.slice A20 n20 c20) ∧ w'.cell? ⟨g24, 0, none⟩ = some (.slice A24 n24 c24) ∧ w'.cell? ⟨g30, 0, none⟩ = some (.slice A30 n30 c30) ∧ w'.cell? ⟨g32, 0, none⟩ = some (.slice A32 n32 c32) ∧ w'.cell? ⟨(w4.heap.size + 1), 0, none⟩ = some (.slice A12 n12 c12) ∧ w'.cell? ⟨w4.heap.size, 0, none⟩ = some (.slice A11 n11 c11))) := Lib.hid fun w' hb => ⟨hb, (blk_cell (blk_size P14 hb)).1, (blk_cell (blk_size P16 hb)).1, (blk_cell (blk_size P18 hb)).1, (blk_cell (blk_size P20 hb)).1, (blk_cell (blk_size P24 hb)).1, (blk_cell (blk_size P30 hb)).1, (blk_cell (blk_size P32 hb)).1, (blk_cell (blk_size P12 hb)).1, (blk_cell (blk_size P11 hb)).1⟩
  have ce14 : cmpN (X + Y + Z) (Z + Y + X) = 0 := by rw [show Z + Y + X = X + Y + Z by omega, cmpN_eq]
  have D14 := fun w' (hb : Below W.heap.size W w') => cmp_any (H14.step hb) (H16.step hb)
  rw [ce14] at D14
  have E14 := Lib.hid D14
  have ce18 : cmpN (X * Y * Z) (Z * X * Y) = 0 := by rw [show Z * X * Y = X * Y * Z by rw [Nat.mul_comm Z X, Nat.mul_assoc, Nat.mul_comm Z Y, Nat.mul_assoc], cmpN_eq]
  have D18 := fun w' (hb : Below W.heap.size W w') => cmp_any (H18.step hb) (H20.step hb)
  rw [ce18] at D18
  have E18 := Lib.hid D18
  have ce24 : cmpN (X * (Y + Z)) (X * Y + X * Z) = 0 := by rw [Nat.mul_add, cmpN_eq]
  have D24 := fun w' (hb : Below W.heap.size W w') => cmp_any (H24.step hb) (H30.step hb)
  rw [ce24] at D24
  have E24 := Lib.hid D24
  have ce32 : cmpN (Y + Z - Z) Y = 0 := by rw [Nat.add_sub_cancel, cmpN_eq]
  have D32 := fun w' (hb : Below W.heap.size W w') => cmp_any (H32.step hb) (H12.step hb)
  rw [ce32] at D32
  have E32 := Lib.hid D32
  have D11 := fun w' (hb : Below W.heap.size W w') => cmp_any (H11.step hb) (H12.step hb)
  have D12 := fun w' (hb : Below W.heap.size W w') => cmp_any (H12.step hb) (H11.step hb)
  rw [cmpN_neg X Y] at D11
  obtain ⟨q1, q2⟩ := cmpN_bd Y X
  generalize cmpN Y X = q at *
  have hwr : IntKind.i64.wrap (-q) = -q := IntWalk.i64_in _ (by omega)
  have HH11 := Lib.hid H11
  have E11 := Lib.hid D11
  have E12 := Lib.hid D12
  clear D14 D18 D24 D32 D11 D12  P14 H14 P16 H16 P18 H18 P20 H20 P24 H24 P30 H30 P32 H32 P12 H12 P11 H11
  go_region_held3 (fun w' => Below W.heap.size W w' ∧ w'.cell? ⟨g14, 0, none⟩ = some (.slice A14 n14 c14) ∧ w'.cell? ⟨g16, 0, none⟩ = some (.slice A16 n16 c16) ∧ w'.cell? ⟨g18, 0, none⟩ = some (.slice A18 n18 c18) ∧ w'.cell? ⟨g20, 0, none⟩ = some (.slice A20 n20 c20) ∧ w'.cell? ⟨g24, 0, none⟩ = some (.slice A24 n24 c24) ∧ w'.cell? ⟨g30, 0, none⟩ = some (.slice A30 n30 c30) ∧ w'.cell? ⟨g32, 0, none⟩ = some (.slice A32 n32 c32) ∧ w'.cell? ⟨(w4.heap.size + 1), 0, none⟩ = some (.slice A12 n12 c12) ∧ w'.cell? ⟨w4.heap.size, 0, none⟩ = some (.slice A11 n11 c11))
    ((first | exact HK.out _ (Below.refl _ _).drew | exact HK.out _ (And.left ‹Below W.heap.size W _ ∧ True›)))
    (first
      | (go_at_call 18; (with_reducible refine (E14.out _ (Below.refl _ _).drew).mono ?_); rintro e wk ⟨rfl, bk⟩; have kB := And.intro (bstep (And.left ‹Below W.heap.size W _ ∧ _›) bk) trivial)
      | (go_at_call 18; (with_reducible refine (E18.out _ (And.left ‹Below W.heap.size W _ ∧ True›)).mono ?_); rintro e wk ⟨rfl, bk⟩; have kB := And.intro (bstep (And.left ‹Below W.heap.size W _ ∧ _›) bk) trivial)
      | (go_at_call 18; (with_reducible refine (E24.out _ (And.left ‹Below W.heap.size W _ ∧ True›)).mono ?_); rintro e wk ⟨rfl, bk⟩; have kB := And.intro (bstep (And.left ‹Below W.heap.size W _ ∧ _›) bk) trivial)
      | (go_at_call 18; (with_reducible refine (E32.out _ (And.left ‹Below W.heap.size W _ ∧ True›)).mono ?_); rintro e wk ⟨rfl, bk⟩; have kB := And.intro (bstep (And.left ‹Below W.heap.size W _ ∧ _›) bk) trivial)
      | (go_at_call 18; (with_reducible refine (E11.out _ (And.left ‹Below W.heap.size W _ ∧ True›)).mono ?_); rintro e wk ⟨rfl, bk⟩; have kB := And.intro (bstep (And.left ‹Below W.heap.size W _ ∧ _›) bk) trivial)
      | (go_at_call 18; (with_reducible refine (E12.out _ (And.left ‹Below W.heap.size W _ ∧ True›)).mono ?_); rintro e wk ⟨rfl, bk⟩; have kB := And.intro (bstep (And.left ‹Below W.heap.size W _ ∧ _›) bk) trivial))
  have kE := (And.left ‹Below W.heap.size W _ ∧ True›)
  have kq := bstep kn32 kE
  have X11 := Lib.hid (X11w.out.step kE)
  clear HK X11w E14 E18 E24 E32 E11 E12 z14 z16 z18 z20 z24 z30 z32 z12 z11 X13 X22 X26 X28 kn32 ce14 ce18 ce24 ce32
  have C36 := pow_ok (i : Int) i (HH11.out.step kE) (by omega) (by omega) (fun j hj => (BX.out.pow (by omega) j).bd (by omega))
  go_wp2_with fail
  clear hwr q1 q2 kE kB HH11
  refine C36.mono ?_
  rintro e w36 ⟨v36, rfl, h36, b36⟩
  obtain ⟨A36, n36, c36, rfl, h36⟩ := h36.open_
  have kk := b36
  have k36 := bstep kq kk
  replace X11 := Lib.hid (X11.out.step kk)
  clear C36 kk b36 kq
  have bn := balloc w36 (.cells #[.slice A36 n36 c36] 27)
  obtain ⟨A11, n11, c11, P11, H11⟩ := X11.out
  have z11 := (blk_cell P11).1
  have lt11 := P11.lt
  have C38 := pow_ok (k : Int) k (H11.step bn) (by omega) (by omega) (fun j hj => (BX.out.pow (by omega) j).bd (by omega))
  replace X11 := Lib.hid (X11.out.step bn)
  have X36 := Lib.hid (Box.new h36)
  have kn36 := bstep k36 bn
  clear bn k36 h36 H11
  go_wp2_with fail
  clear z11 lt11 P11
  generalize w36.heap.size = g36 at *
  refine C38.mono ?_
  rintro e w38 ⟨v38, rfl, h38, b38⟩
  obtain ⟨A38, n38, c38, rfl, h38⟩ := h38.open_
  have kk := b38
  have k38 := bstep kn36 kk
  replace X11 := Lib.hid (X11.out.step kk)
  replace X36 := Lib.hid (X36.out.step kk)
  clear C38 kk b38 kn36
  have bn := balloc w38 (.cells #[.slice A38 n38 c38] 27)
  obtain ⟨A11, n11, c11, P11, H11⟩ := X11.out
  have z11 := (blk_cell P11).1
  have lt11 := P11.lt
  have C40 := pow_ok ((i : Int) + (k : Int)) (i + k) (H11.step bn) (by omega) (by omega) (fun j hj => (BX.out.pow (by omega) j).bd (by omega))
  replace X11 := Lib.hid (X11.out.step bn)
  replace X36 := Lib.hid (X36.out.step bn)
  have X38 := Lib.hid (Box.new h38)
  have kn38 := bstep k38 bn
  clear bn k38 h38 H11
  go_wp2_with fail
  clear z11 lt11 P11
  generalize w38.heap.size = g38 at *
  refine C40.mono ?_
  rintro e w40 ⟨v40, rfl, h40, b40⟩
  obtain ⟨A40, n40, c40, rfl, h40⟩ := h40.open_
  have kk := b40
  have k40 := bstep kn38 kk
  replace X11 := Lib.hid (X11.out.step kk)
  replace X36 := Lib.hid (X36.out.step kk)
  replace X38 := Lib.hid (X38.out.step kk)
  clear C40 kk b40 kn38
  have bn := balloc w40 (.cells #[.slice A40 n40 c40] 27)
  obtain ⟨A36, n36, c36, P36, H36⟩ := X36.out
  have z36 := (blk_cell P36).1
  have lt36 := P36.lt
  obtain ⟨A38, n38, c38, P38, H38⟩ := X38.out
  have z38 := (blk_cell P38).1
  have lt38 := P38.lt
  have e42 := Lib.hid (prod2 (BX.out.pow (by omega) i) (BX.out.pow (by omega) k) (by omega))
  have C42 := mul_ok (t := 27) e42.out (H36.step bn) (H38.step bn)
  simp only [World.size_alloc] at C42
  replace X11 := Lib.hid (X11.out.step bn)
  replace X36 := Lib.hid (X36.out.step bn)
  replace X38 := Lib.hid (X38.out.step bn)
  have X40 := Lib.hid (Box.new h40)
  have kn40 := bstep k40 bn
  clear bn k40 h40 H36 H38
  go_wp2_with fail
  clear z36 lt36 P36 z38 lt38 P38
  generalize w40.heap.size = g40 at *
  refine C42.mono ?_
  rintro e w42 ⟨v42, rfl, h42, b42⟩
  obtain ⟨A42, n42, c42, rfl, h42⟩ := h42.open_
  have kk := bstep (balloc _ (.cells #[.slice A36 n36 c36, .slice A38 n38 c38] 27)) b42
  have k42 := bstep kn40 kk
  replace X40 := Lib.hid (X40.out.step kk)
  obtain ⟨A40, n40, c40, P40, H40⟩ := X40.out
  have z40 := (blk_cell P40).1
  have lt40 := P40.lt
  have bn := balloc w42 (.cells #[.slice A42 n42 c42] 27)
  have C := cmp_any (h42.step bn) (H40.step bn)
  rw [← Nat.pow_add, cmpN_eq] at C
  have kn42 := bstep k42 bn
  clear C42 kk b42 bn H40 h42 X11 X36 X38 X40
  go_wp2_with fail
  refine C.mono ?_
  rintro e w43 ⟨rfl, b43⟩
  have k43 := bstep kn42 b43
  clear C b43 kn42 z40 lt40 P40 k42
  go_wp2_with fail
  go_ret
  exact ⟨rfl, k43⟩
end Go.Proofs.YthfbgcjfnpajjaaDoor
