import Derived.Test.YthfbgcjfnpajjaaDoorL06B
import Derived.Test.YthfbgcjfnpajjaaDoorRefF
/- NatTells: its walk. -/
namespace Go.Proofs.YthfbgcjfnpajjaaDoor
open Go.RowKit
set_option linter.unusedVariables false
set_option maxRecDepth 100000

theorem len_bl {A : Option Addr} {n c N : Nat} {w : World} (h : NatIs w w.heap.size (.agg #[.slice A n c]) N) :
    Calls Tryd.prog 16 #[.agg #[.slice A n c]] w fun e w' => (∃ k : Nat, e = .returned (.int .i64 k) ∧ BL 256 N k) ∧ Below w.heap.size w w' := by
  obtain ⟨A', n', c', ws, e, w1, w2, rfl, w4⟩ := h
  injection e with e; injection e with e; injection e with e _; injection e with e1 e2 e3; subst e1 e2 e3
  exact len_walk w1 w2 w4
theorem trim_bl {B : Nat} {A : Option Addr} {n c : Nat} {us : List UInt8} {w : World} (h : Rd w B A n us) (hn : n ≤ c) (hc : c ≤ 9223372036854775807) :
    Calls Tryd.prog 17 #[.slice A n c] w fun e w' => (∃ m, e = .returned (.slice A m c) ∧ m ≤ n ∧ Rd w B A m (us.take m) ∧ BL 256 (leN us) m ∧ Canon (nb (us.take m)) ∧ leN (us.take m) = leN us) ∧ w = w' := by
  refine (trim_any h hn hc).mono ?_
  rintro e w' ⟨⟨m, rfl, hm, hk, hle⟩, rfl⟩
  have hl : (us.take m).length = m := by rw [List.length_take, h.1]; omega
  refine ⟨⟨m, rfl, hm, h.part_take hm, ?_, hk, hle⟩, rfl⟩
  have := canon_bl (nb_lt (us.take m)) hk
  rw [nb_length, hl] at this
  rwa [← hle]
/-- What both parsers say of a text. -/
theorem parse_both (l : List UInt8) (hl : l.length ≤ 400) : ∃ (X : Nat) (z : Int), (0 ≤ z ∧ z ≤ 14) ∧ (∀ w, Calls Tryd.prog 8 #[.string (bs l)] w fun e w' => ∃ v, e = .returned (.tuple #[v, .int .i64 z]) ∧ NatIs w' w'.heap.size v X ∧ Below w.heap.size w w') ∧
    (∀ w, Calls Tryd.prog 9 #[.string (bs l)] w fun e w' => ∃ A m c us, e = .returned (.tuple #[.slice A m c, .int .i64 z]) ∧ Rd w' w'.heap.size A m us ∧ m ≤ c ∧ c ≤ 9223372036854775807 ∧ m ≤ 300 ∧ leN us = X ∧ Below w.heap.size w w') := by
  cases ht : textB l
  · refine ⟨0, 14, by omega, fun w => (parse_no l (by omega) ht).mono ?_, fun w => (rparse_no l hl ht w).mono ?_⟩
    · rintro e w' ⟨rfl, hb⟩
      exact ⟨_, rfl, NatIs.zero, hb⟩
    · rintro e w' ⟨rfl, hb⟩
      exact ⟨_, _, _, [], rfl, Rd.nil, by omega, by omega, by omega, rfl, hb⟩
  · refine ⟨hexV l, 0, by omega, fun w => (parse_yes l (by omega) ht).mono ?_, fun w => (rparse_yes l hl ht w).mono ?_⟩
    · rintro e w' ⟨v, rfl, h, hb⟩
      exact ⟨v, rfl, h, hb⟩
    · rintro e w' h
      exact h
set_option maxHeartbeats 4000000 in
theorem tells6_main (N : Nat) (l : List UInt8) (A : Option Addr) (n c : Nat) (us : List UInt8) (A2 : Option Addr) (n2 c2 : Nat) (us2 : List UInt8) (w : World) (hN : N < 18446744073709551616) (r : Rd w w.heap.size A n us) (r2 : Rd w w.heap.size A2 n2 us2) (hl : l.length ≤ 400) (l1 : n ≤ 200) (l2 : n2 ≤ 200) (hc1 : n ≤ c) (hc2 : n2 ≤ c2) (hd1 : c ≤ 9223372036854775807) (hd2 : c2 ≤ 9223372036854775807) :
    Calls Tryd.prog 3 #[.int .u64 (uv N), .string (bs l), .slice A n c, .slice A2 n2 c2] w fun e w' => e = .returned (.bool true) ∧ Below w.heap.size w w' := by
  obtain ⟨X, z, ⟨z0, z14⟩, hp, hq⟩ := parse_both l hl
  have HP := Lib.hid hp
  have HQ := Lib.hid hq
  have HO := Lib.hid (fun X => of_any N hN X)
  have HR := Lib.hid (fun X => rof_any N hN X)
  have R1 := Lib.hid r
  have R2 := Lib.hid r2
  have hsz := bs_size l
  have hl2 : (l.length : Int) ≤ 400 := by omega
  clear hp hq hN r r2
  go_enter Tryd.func3, Tryd.ntmps3
  go_wp2_with fail
  refine (awake6 _).mono ?_
  rintro e w1 ⟨rfl, k1⟩
  go_wp2_with fail
  refine (HP.out _).mono ?_
  rintro e w2 ⟨v2, rfl, h2, b2⟩
  obtain ⟨A4, n4, c4, rfl, h4⟩ := h2.open_
  have bn := balloc w2 (.cells #[.slice A4 n4 c4] 27)
  have X1 := Lib.hid (Box.new h4)
  have k3 := bstep (bstep k1 b2) bn
  clear h4 b2 bn k1
  go_wp2_with fail
  generalize w2.heap.size = g1 at *
  refine (HQ.out _).mono ?_
  rintro e w4 ⟨A3, n3, c3, us3, rfl, r3, q1, q2, q3, hle3, b4⟩
  have Hle3 := Lib.hid hle3
  have R3 := Lib.hid r3
  replace X1 := Lib.hid (X1.out.step b4)
  have k4 := bstep k3 b4
  clear r3 hle3 b4 k3
  have C := to_any (R1.out.step k4) (by omega) hc1 hd1
  go_wp2_with fail
  refine C.mono ?_
  rintro e w5 ⟨v5, rfl, h5, b5⟩
  obtain ⟨A5, n5, c5, rfl, h5⟩ := h5.open_
  replace X1 := Lib.hid (X1.out.step b5)
  replace R3 := Lib.hid (R3.out.step b5)
  have k5 := bstep k4 b5
  clear C b5 k4
  have C := to_any (R2.out.step k5) (by omega) hc2 hd2
  go_wp2_with fail
  refine C.mono ?_
  rintro e w6 ⟨v6, rfl, h6, b6⟩
  obtain ⟨A6, n6, c6, rfl, h6⟩ := h6.open_
  replace h5 := h5.step b6
  replace X1 := Lib.hid (X1.out.step b6)
  replace R3 := Lib.hid (R3.out.step b6)
  have k6 := bstep k5 b6
  clear C b6 k5
  have bb := bstep (balloc w6 (.cells #[.slice A5 n5 c5] 27)) (balloc _ (.cells #[.slice A6 n6 c6] 27))
  have X2 := Lib.hid ((Box.new h5).step (balloc _ (.cells #[.slice A6 n6 c6] 27)))
  have X3 := Lib.hid (Box.new (h6.step (balloc w6 (.cells #[.slice A5 n5 c5] 27))))
  simp only [World.size_alloc] at X3
  replace X1 := Lib.hid (X1.out.step bb)
  replace R3 := Lib.hid (R3.out.step bb)
  have k7 := bstep k6 bb
  clear bb h5 h6 k6
  go_wp2_with fail
  generalize w6.heap.size = g2 at *
  refine (HO.out _).mono ?_
  rintro e w8 ⟨v8, rfl, h8, b8⟩
  obtain ⟨A8, n8, c8, rfl, h8⟩ := h8.open_
  have T := text_any h8
  replace X1 := Lib.hid (X1.out.step b8)
  replace X2 := Lib.hid (X2.out.step b8)
  replace X3 := Lib.hid (X3.out.step b8)
  replace R3 := Lib.hid (R3.out.step b8)
  have k8 := bstep k7 b8
  clear b8 k7
  clear h8
  go_wp2_with fail
  refine T.mono ?_
  rintro e w9 ⟨rfl, b9⟩
  clear T
  replace X1 := Lib.hid (X1.out.step b9)
  replace X2 := Lib.hid (X2.out.step b9)
  replace X3 := Lib.hid (X3.out.step b9)
  replace R3 := Lib.hid (R3.out.step b9)
  have k9 := bstep k8 b9
  clear b9 k8
  go_wp2_with fail
  refine (HR.out _).mono ?_
  rintro e w10 ⟨A10, n10, c10, us10, rfl, r10, p1, p2, p3, hle, _, b10⟩
  have T := reftext_any (c := c10) r10 (Nat.le_refl _) (by omega)
  rw [hle] at T
  replace X1 := Lib.hid (X1.out.step b10)
  replace X2 := Lib.hid (X2.out.step b10)
  replace X3 := Lib.hid (X3.out.step b10)
  replace R3 := Lib.hid (R3.out.step b10)
  have k10 := bstep k9 b10
  clear b10 k9
  clear r10 hle
  have htl := bs_toList (hexT N)
  generalize hexT N = tN at *
  go_wp2_with fail
  refine T.mono ?_
  rintro e w11 ⟨rfl, b11⟩
  clear T
  replace X1 := Lib.hid (X1.out.step b11)
  replace X2 := Lib.hid (X2.out.step b11)
  replace X3 := Lib.hid (X3.out.step b11)
  replace R3 := Lib.hid (R3.out.step b11)
  have k11 := bstep k10 b11
  clear b11 k10
  obtain ⟨A11, n11, c11, P11, H11⟩ := X1.out
  have y11 := (blk_cell P11).1
  have lt11 := P11.lt
  have C := is_any (c := c3) H11 R3.out (by omega) q1 q2 Hle3.out.symm
  clear H11
  go_wp2_with fail
  clear y11 lt11 P11 htl
  refine C.mono ?_
  rintro e w12 ⟨rfl, b12⟩
  clear C
  replace X2 := Lib.hid (X2.out.step b12)
  replace X3 := Lib.hid (X3.out.step b12)
  have k12 := bstep k11 b12
  clear b12 k11
  clear X1 R3
  obtain ⟨A12, n12, c12, P12, H12⟩ := X2.out
  have y12 := (blk_cell P12).1
  have lt12 := P12.lt
  have C := is_any (c := c) H12 (R1.out.step k12) (by omega) hc1 hd1 rfl
  clear H12
  go_wp2_with fail
  clear y12 lt12 P12
  refine C.mono ?_
  rintro e w13 ⟨rfl, b13⟩
  clear C
  replace X2 := Lib.hid (X2.out.step b13)
  replace X3 := Lib.hid (X3.out.step b13)
  have k13 := bstep k12 b13
  clear b13 k12
  obtain ⟨A13, n13, c13, P13, H13⟩ := X2.out
  have y13 := (blk_cell P13).1
  have lt13 := P13.lt
  have C := len_bl H13
  clear H13
  go_wp2_with fail
  clear y13 lt13 P13
  refine C.mono ?_
  rintro e w14 ⟨⟨j, rfl, hj⟩, b14⟩
  clear C
  replace X2 := Lib.hid (X2.out.step b14)
  replace X3 := Lib.hid (X3.out.step b14)
  have k14 := bstep k13 b14
  clear b14 k13
  have Hj := Lib.hid hj
  clear hj
  have C := trim_bl (R1.out.step k14) hc1 hd1
  go_wp2_with fail
  refine C.mono ?_
  rintro e w' ⟨⟨m, rfl, hm, _, hbl, _, _⟩, rfl⟩
  obtain rfl : j = m := Hj.out.same (by decide) hbl
  clear C hbl Hj hm
  obtain ⟨A15, n15, c15, P15, H15⟩ := X2.out
  have y15 := (blk_cell P15).1
  have lt15 := P15.lt
  obtain ⟨A16, n16, c16, P16, H16⟩ := X3.out
  have y16 := (blk_cell P16).1
  have lt16 := P16.lt
  have C := cmp_any H15 H16
  clear H15 H16
  go_wp2_with fail
  clear y15 lt15 P15 y16 lt16 P16
  refine C.mono ?_
  rintro e w17 ⟨rfl, b17⟩
  clear C X2 X3
  have k15 := bstep k14 b17
  clear b17 k14
  have C := trim_bl (R1.out.step k15) hc1 hd1
  go_wp2_with fail
  refine C.mono ?_
  rintro e w' ⟨⟨m1, rfl, hm1, rr1, _, cn1, le1⟩, rfl⟩
  clear C
  have C := trim_bl (R2.out.step k15) hc2 hd2
  have RR1 := Lib.hid (And.intro rr1 (And.intro cn1 le1))
  clear rr1 cn1 le1
  go_wp2_with fail
  refine C.mono ?_
  rintro e w' ⟨⟨m2, rfl, hm2, rr2, _, cn2, le2⟩, rfl⟩
  clear C
  have C := rcmp_any (c := c) (c2 := c2) RR1.out.1 rr2 (Nat.le_refl _) (Nat.le_refl _) RR1.out.2.1 cn2 (by omega) (by omega)
  rw [RR1.out.2.2, le2] at C
  clear RR1 rr2 cn2 le2
  generalize cmpN (leN us) (leN us2) = q at *
  go_wp2_with fail
  refine C.mono ?_
  rintro e w18 ⟨rfl, b18⟩
  clear C
  have k16 := bstep k15 b18
  clear b18 k15
  go_wp2_with fail
  refine (HO.out _).mono ?_
  rintro e w19 ⟨v19, rfl, h19, b19⟩
  obtain ⟨A19, n19, c19, rfl, h19⟩ := h19.open_
  have C := len_bl h19
  clear h19
  have k17 := bstep k16 b19
  clear b19 k16
  go_wp2_with fail
  refine C.mono ?_
  rintro e w20 ⟨⟨j2, rfl, hj2⟩, b20⟩
  clear C
  have k18 := bstep k17 b20
  clear b20 k17
  have Hj2 := Lib.hid hj2
  clear hj2
  go_wp2_with fail
  refine (HR.out _).mono ?_
  rintro e w21 ⟨A21, n21, c21, us21, rfl, _, _, _, p8, _, hbl, b21⟩
  obtain rfl : j2 = n21 := Hj2.out.same (by decide) hbl
  clear hbl Hj2
  have k19 := bstep k18 b21
  clear b21 k18
  go_wp2_with fail
  go_ret
  exact ⟨rfl, k19⟩
end Go.Proofs.YthfbgcjfnpajjaaDoor
