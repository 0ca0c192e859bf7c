import Derived.Test.YthfbgcjfnpajjaaDoorL06C
import Derived.Test.YthfbgcjfnpajjaaDoorL06E
/- NatReckons: its walk. -/
namespace Go.Proofs.YthfbgcjfnpajjaaDoor
open Go.RowKit
set_option linter.unusedVariables false
set_option maxRecDepth 100000

/-- What 'Sub' says of two numbers, whichever is greater. -/
theorem sub_both (N M : Nat) : ∃ (z : Int) (D : Nat), ((M ≤ N ∧ z = 0 ∧ D = N - M) ∨ (N < M ∧ z = 2 ∧ D = 0)) ∧
    ∀ (v u : Value) (X : World), NatIs X X.heap.size v N → NatIs X X.heap.size u M → Calls Tryd.prog 22 #[v, u] X fun e w' => ∃ v', e = .returned (.tuple #[v', .int .i64 z]) ∧ NatIs w' w'.heap.size v' D ∧ Below X.heap.size X w' := by
  by_cases h : M ≤ N
  · refine ⟨0, N - M, .inl ⟨h, rfl, rfl⟩, fun v u X h1 h2 => (sub_any h1 h2 h).mono ?_⟩
    rintro e w' ⟨v', rfl, h3, hb⟩
    exact ⟨v', rfl, h3, hb⟩
  · refine ⟨2, 0, .inr ⟨by omega, rfl, rfl⟩, fun v u X h1 h2 => (sub_err h1 h2 (by omega)).mono ?_⟩
    rintro e w' ⟨rfl, hb⟩
    exact ⟨_, rfl, NatIs.zero, hb⟩
theorem want_one (W : World) : Rd (W.alloc (.cells #[.int .u8 1] 5)) (W.alloc (.cells #[.int .u8 1] 5)).heap.size (some ⟨W.heap.size, 0, none⟩) 1 [1] := by
  have h := Rd.of_blk (us := [1]) (Blk.new W 5 (bvs [1]).toArray)
  have h2 := h.more (B' := (W.alloc (.cells (bvs [1]).toArray 5)).heap.size) (by simp)
  exact h2
set_option maxHeartbeats 4000000 in
theorem reckons6_main (A : Option Addr) (n c : Nat) (us : List UInt8) (A2 : Option Addr) (n2 c2 : Nat) (us2 : List UInt8) (u : UInt8) (i : Nat) (w : World) (r : Rd w w.heap.size A n us) (r2 : Rd w w.heap.size A2 n2 us2) (l1 : n ≤ 60) (l2 : n2 ≤ 60) (hc1 : n ≤ c) (hc2 : n2 ≤ c2) (hd1 : c ≤ 9223372036854775807) (hd2 : c2 ≤ 9223372036854775807) (hu : bv u % 21 = (i : Int)) :
    Calls Tryd.prog 4 #[.slice A n c, .slice A2 n2 c2, .int .u8 (bv u)] w fun e w' => e = .returned (.bool true) ∧ Below w.heap.size w w' := by
  have BX := Lib.hid (LB.of us (k := 60) (by rw [r.1]; exact l1))
  have BY := Lib.hid (LB.of us2 (k := 60) (by rw [r2.1]; exact l2))
  have R1 := Lib.hid r
  have R2 := Lib.hid r2
  have hb0 := bv_nn u
  have hub := bv_lt u
  have hi20 : i ≤ 20 := by omega
  clear r r2
  go_enter Tryd.func4, Tryd.ntmps4
  go_wp2_with fail
  refine (awake6 _).mono ?_
  rintro e w1 ⟨rfl, k1⟩
  have C := trim_bl (R1.out.step k1) hc1 hd1
  go_wp2_with fail
  refine C.mono ?_
  rintro e w' ⟨⟨m1, rfl, hm1, rr1, _, cn1, le1⟩, rfl⟩
  have RX := Lib.hid rr1
  have CX := Lib.hid cn1
  have LX := Lib.hid le1
  clear C rr1 cn1 le1
  have C := trim_bl (R2.out.step k1) hc2 hd2
  go_wp2_with fail
  refine C.mono ?_
  rintro e w' ⟨⟨m2, rfl, hm2, rr2, _, cn2, le2⟩, rfl⟩
  have RY := Lib.hid rr2
  have CY := Lib.hid cn2
  have LY := Lib.hid le2
  clear C rr2 cn2 le2
  have C1 := fun X (hX : Below w1.heap.size w1 X) => to_any ((R1.out.step k1).step hX) (by omega) hc1 hd1
  have C2 := fun X (hX : Below w1.heap.size w1 X) => to_any ((R2.out.step k1).step hX) (by omega) hc2 hd2
  have HC1 := Lib.hid C1
  have HC2 := Lib.hid C2
  clear C1 C2 R1 R2
  generalize us.take m1 = xs at *
  generalize us2.take m2 = ys at *
  generalize leN us = N at *
  generalize leN us2 = M at *
  obtain ⟨z, D, hzd, hsub⟩ := sub_both N M
  have HSUB := Lib.hid hsub
  have HZD := Lib.hid hzd
  have hz2 : 0 ≤ z ∧ z ≤ 2 := by rcases hzd with ⟨_, h, _⟩ | ⟨_, h, _⟩ <;> omega
  obtain ⟨hz0, hz2⟩ := hz2
  clear hzd hsub
  have K := Below.refl w1.heap.size w1
  have eS := Lib.hid (sum2 BX.out BY.out (by omega))
  have eP := Lib.hid (prod2 BX.out BY.out (by omega))
  go_wp2_with fail
  refine (HC1.out _ K).mono ?_
  rintro e wa1 ⟨va1, rfl, ha1, ba1⟩
  obtain ⟨Aa1, na1, ca1, rfl, ha1⟩ := ha1.open_
  replace K := bstep K ba1
  clear ba1
  go_wp2_with fail
  refine (HC2.out _ K).mono ?_
  rintro e wb1 ⟨vb1, rfl, hb1, bb1⟩
  obtain ⟨Ab1, nb1, cb1, rfl, hb1⟩ := hb1.open_
  replace K := bstep K bb1
  replace ha1 := ha1.step bb1
  clear bb1
  have C := add_ok (t := 27) eS.out ha1 hb1
  have bn := balloc wb1 (.cells #[.slice Aa1 na1 ca1, .slice Ab1 nb1 cb1] 27)
  replace K := bstep K bn
  clear bn ha1 hb1
  go_wp2_with fail
  refine C.mono ?_
  rintro e wc1 ⟨vc1, rfl, hc1, bc1⟩
  obtain ⟨Ac1, nc1, cc1, rfl, hc1⟩ := hc1.open_
  have bn := balloc wc1 (.cells #[.slice Ac1 nc1 cc1] 27)
  have X1 := Lib.hid (Box.new hc1)
  replace K := bstep (bstep K bc1) bn
  clear C hc1 bc1 bn
  clear eS
  go_wp2_with fail
  generalize wc1.heap.size = g1 at *
  refine (HC1.out _ K).mono ?_
  rintro e wa2 ⟨va2, rfl, ha2, ba2⟩
  obtain ⟨Aa2, na2, ca2, rfl, ha2⟩ := ha2.open_
  replace X1 := Lib.hid (X1.out.step ba2)
  replace K := bstep K ba2
  clear ba2
  go_wp2_with fail
  refine (HC2.out _ K).mono ?_
  rintro e wb2 ⟨vb2, rfl, hb2, bb2⟩
  obtain ⟨Ab2, nb2, cb2, rfl, hb2⟩ := hb2.open_
  replace X1 := Lib.hid (X1.out.step bb2)
  replace K := bstep K bb2
  replace ha2 := ha2.step bb2
  clear bb2
  have C := mul_ok (t := 27) eP.out ha2 hb2
  have bn := balloc wb2 (.cells #[.slice Aa2 na2 ca2, .slice Ab2 nb2 cb2] 27)
  replace X1 := Lib.hid (X1.out.step bn)
  replace K := bstep K bn
  clear bn ha2 hb2
  go_wp2_with fail
  refine C.mono ?_
  rintro e wc2 ⟨vc2, rfl, hc2, bc2⟩
  obtain ⟨Ac2, nc2, cc2, rfl, hc2⟩ := hc2.open_
  have bn := balloc wc2 (.cells #[.slice Ac2 nc2 cc2] 27)
  replace X1 := Lib.hid ((X1.out.step bc2).step bn)
  have X2 := Lib.hid (Box.new hc2)
  replace K := bstep (bstep K bc2) bn
  clear C hc2 bc2 bn
  clear eP
  go_wp2_with fail
  generalize wc2.heap.size = g2 at *
  refine (HC1.out _ K).mono ?_
  rintro e wa3 ⟨va3, rfl, ha3, ba3⟩
  obtain ⟨Aa3, na3, ca3, rfl, ha3⟩ := ha3.open_
  replace X1 := Lib.hid (X1.out.step ba3)
  replace X2 := Lib.hid (X2.out.step ba3)
  replace K := bstep K ba3
  clear ba3
  go_wp2_with fail
  refine (HC2.out _ K).mono ?_
  rintro e wb3 ⟨vb3, rfl, hb3, bb3⟩
  obtain ⟨Ab3, nb3, cb3, rfl, hb3⟩ := hb3.open_
  replace X1 := Lib.hid (X1.out.step bb3)
  replace X2 := Lib.hid (X2.out.step bb3)
  replace K := bstep K bb3
  replace ha3 := ha3.step bb3
  clear bb3
  have C := HSUB.out _ _ _ ha3 hb3
  clear ha3 hb3
  go_wp2_with fail
  refine C.mono ?_
  rintro e wc3 ⟨vc3, rfl, hc3, bc3⟩
  obtain ⟨Ac3, nc3, cc3, rfl, hc3⟩ := hc3.open_
  have bn := balloc wc3 (.cells #[.slice Ac3 nc3 cc3] 27)
  replace X1 := Lib.hid ((X1.out.step bc3).step bn)
  replace X2 := Lib.hid ((X2.out.step bc3).step bn)
  have X3 := Lib.hid (Box.new hc3)
  replace K := bstep (bstep K bc3) bn
  clear C hc3 bc3 bn
  clear HSUB HC2
  go_wp2_with fail
  generalize wc3.heap.size = g3 at *
  generalize wc3.alloc (.cells #[.slice Ac3 nc3 cc3] 27) = W at *
  obtain ⟨A11, n11, c11, P11, H11⟩ := X1.out
  obtain ⟨A12, n12, c12, P12, H12⟩ := X2.out
  have HH11 := Lib.hid H11
  have HH12 := Lib.hid H12
  have y11 := (blk_cell P11).1
  have y12 := (blk_cell P12).1
  have HK : Hid (∀ w', Below W.heap.size W w' → (Below W.heap.size W w' ∧ w'.cell? ⟨g1, 0, none⟩ = some (.slice A11 n11 c11) ∧ w'.cell? ⟨g2, 0, none⟩ = some (.slice A12 n12 c12))) := Lib.hid fun w' hb => ⟨hb, (blk_cell (blk_size P11 hb)).1, (blk_cell (blk_size P12 hb)).1⟩
  have HADD : Hid (∀ X, Below W.heap.size W X → Calls Tryd.prog 23 #[.slice A m1 c, .slice A2 m2 c2] X (GivesRow (N + M) 61 X)) := Lib.hid fun X hX => by
    have h := radd_any (c := c) (c2 := c2) ((RX.out.step K).step hX) ((RY.out.step K).step hX) (Nat.le_refl _) (Nat.le_refl _) 60 (by omega) (by omega) (by omega)
    rwa [LX.out, LY.out] at h
  have HMUL : Hid (∀ X, Below W.heap.size W X → Calls Tryd.prog 24 #[.slice A m1 c, .slice A2 m2 c2] X (GivesRow (N * M) 121 X)) := Lib.hid fun X hX => by
    have h := rmul_any (c := c) (c2 := c2) ((RX.out.step K).step hX) ((RY.out.step K).step hX) (Nat.le_refl _) (Nat.le_refl _) (by omega) (by omega)
    rw [LX.out, LY.out] at h
    refine h.mono ?_
    rintro e w' ⟨A', m', c', us', h1, h2, h3, h4, h5, h6⟩
    exact ⟨A', m', c', us', h1, h2, h3, h4, by omega, h6⟩
  clear P11 P12 H11 H12
  go_region_held3 (fun w' => Below W.heap.size W w' ∧ w'.cell? ⟨g1, 0, none⟩ = some (.slice A11 n11 c11) ∧ w'.cell? ⟨g2, 0, none⟩ = some (.slice A12 n12 c12))
    ((first | exact HK.out _ (Below.refl _ _).drew | exact HK.out _ (And.left ‹Below W.heap.size W _ ∧ True›)))
    (first
      | (go_at_call 23; (with_reducible refine (HADD.out _ (Below.refl _ _).drew).mono ?_); rintro e w4 ⟨A7, m7, c7, us7, rfl, r7, p1, p2, p3, hle7, _, b4⟩; have kB := And.intro (bstep (Below.refl W.heap.size W).drew b4) trivial)
      | (go_at_call 15; (with_reducible refine (is_any (HH11.out.step (And.left ‹Below W.heap.size W _ ∧ True›)) r7 (by omega) p1 p2 hle7.symm).mono ?_); rintro e w5 ⟨rfl, b5⟩; have kB := And.intro (bstep (And.left ‹Below W.heap.size W _ ∧ _›) b5) trivial)
      | (go_at_call 24; (with_reducible refine (HMUL.out _ (And.left ‹Below W.heap.size W _ ∧ True›)).mono ?_); rintro e w6 ⟨A8, m8, c8, us8, rfl, r8, q1, q2, q3, hle8, _, b6⟩; have kB := And.intro (bstep (And.left ‹Below W.heap.size W _ ∧ _›) b6) trivial)
      | (go_at_call 15; (with_reducible refine (is_any (HH12.out.step (And.left ‹Below W.heap.size W _ ∧ True›)) r8 (by omega) q1 q2 hle8.symm).mono ?_); rintro e w7 ⟨rfl, b7⟩; have kB := And.intro (bstep (And.left ‹Below W.heap.size W _ ∧ _›) b7) trivial))
  have kE := (And.left ‹Below W.heap.size W _ ∧ True›)
  have X3' := Lib.hid (X3.out.step kE)
  have K2 := Lib.hid (bstep K kE)
  have C := rcmp_any (c := c) (c2 := c2) (RX.out.step K2.out) (RY.out.step K2.out) (Nat.le_refl _) (Nat.le_refl _) CX.out CY.out (by omega) (by omega)
  rw [LX.out, LY.out] at C
  clear HK HADD HMUL HH11 HH12 X1 X2 X3 y11 y12
  rcases HZD.out with ⟨hle, rfl, rfl⟩ | ⟨hlt, rfl, rfl⟩
  · have hq : 0 ≤ cmpN N M := by
      unfold cmpN
      split
      · omega
      · split <;> omega
    have Hle := Lib.hid hle
    generalize cmpN N M = q at *
    clear hle HZD
    go_wp2_with fail
    clear kE kB
    refine C.mono ?_
    rintro e w8 ⟨rfl, b8⟩
    have X3 := Lib.hid (X3'.out.step b8)
    have K3 := bstep K2.out b8
    clear C b8 X3' K2 K
    go_wp2_with fail
    obtain ⟨A13, n13, c13, P13, H13⟩ := X3.out
    have HH13 := Lib.hid H13
    have y13 := (blk_cell P13).1
    have HK : Hid (∀ w', Below w8.heap.size w8 w' → (Below w8.heap.size w8 w' ∧ w'.cell? ⟨g3, 0, none⟩ = some (.slice A13 n13 c13))) := Lib.hid fun w' hb => ⟨hb, (blk_cell (blk_size P13 hb)).1⟩
    have HSR : Hid (∀ X, Below w8.heap.size w8 X → Calls Tryd.prog 25 #[.slice A m1 c, .slice A2 m2 c2] X (GivesRow (N - M) 60 X)) := Lib.hid fun X hX => by
      have h := rsub_any (c := c) (c2 := c2) ((RX.out.step K3).step hX) ((RY.out.step K3).step hX) (Nat.le_refl _) (Nat.le_refl _) (by omega) (by omega) (by rw [LX.out, LY.out]; exact Hle.out)
      rw [LX.out, LY.out] at h
      refine h.mono ?_
      rintro e w' ⟨A', m', c', us', h1, h2, h3, h4, h5, h6⟩
      exact ⟨A', m', c', us', h1, h2, h3, h4, by omega, h6⟩
    clear P13 H13
    go_region_held3 (fun w' => Below w8.heap.size w8 w' ∧ w'.cell? ⟨g3, 0, none⟩ = some (.slice A13 n13 c13))
      ((first | exact HK.out _ (Below.refl _ _).drew | exact HK.out _ (And.left ‹Below w8.heap.size w8 _ ∧ True›)))
      (first
        | (go_at_call 25; (with_reducible refine (HSR.out _ (Below.refl _ _).drew).mono ?_); rintro e w4 ⟨A7, m7, c7, us7, rfl, r7, p1, p2, p3, hle7, _, b4⟩; have kB := And.intro (bstep (Below.refl w8.heap.size w8).drew b4) trivial)
        | (go_at_call 15; (with_reducible refine (is_any (HH13.out.step (And.left ‹Below w8.heap.size w8 _ ∧ True›)) r7 (by omega) p1 p2 hle7.symm).mono ?_); rintro e w5 ⟨rfl, b5⟩; have kB := And.intro (bstep (And.left ‹Below w8.heap.size w8 _ ∧ _›) b5) trivial))
    have kE := (And.left ‹Below w8.heap.size w8 _ ∧ True›)
    have KT := Lib.hid (bstep K3 kE)
    clear HK HSR HH13 X3 y13 kE K3
    go_wp2_with fail
    have hwant := want_one w5
    have kw := bstep KT.out (balloc w5 (.cells #[.int .u8 1] 5))
    generalize w5.alloc (.cells #[.int .u8 1] 5) = V at *
    generalize w5.heap.size = gw at *
    have HW := Lib.hid (And.intro hwant (show leN [1] = N ^ 0 from by rw [Nat.pow_zero]; rfl))
    clear hwant KT hu hb0 hub
    go_loopw [16, 107] (fun v y wr => ∃ (j : Nat) (Aw : Option Addr) (mw cw : Nat) (vs : List UInt8), j ≤ i ∧ y = .int .i64 ((j : Nat) : Int) ∧ v = .slice Aw mw cw ∧ Hid (Rd wr wr.heap.size Aw mw vs ∧ leN vs = N ^ j) ∧ mw ≤ 1 + 61 * j ∧ mw ≤ cw ∧ cw ≤ 9223372036854775807 ∧ Below w1.heap.size w1 wr) (fun _ y _ => i - (intOf y).toNat)
    case atStart => exact ⟨0, _, 1, 1, [1], by omega, rfl, rfl, HW, by omega, by omega, by omega, kw⟩
    case round =>
      clear HW kw
      obtain ⟨j, Aw, mw, cw, vs, hj, rfl, rfl, HW, hm, hcw, hcw2, kb⟩ := hrel
      by_cases hlt : j < i
      · have C := rmul_any (c := cw) (c2 := c) HW.out.1 (RX.out.step kb) (Nat.le_refl _) (Nat.le_refl _) (by omega) (by omega)
        rw [HW.out.2, LX.out] at C
        go_wp2_with fail
        refine C.mono ?_
        rintro e wn ⟨An, mn, cn, vn, rfl, rn, p1, p2, p3, hle, _, bn⟩
        have HWn := Lib.hid (And.intro rn (show leN vn = N ^ (j + 1) by rw [hle, Nat.pow_succ]))
        have kn := bstep kb bn
        have hmn : mn ≤ 1 + 61 * (j + 1) := by omega
        clear C rn hle bn
        go_wp2_with fail
        go_roundw
        case rel => exact ⟨j + 1, An, mn, cn, vn, by omega, by go_num, rfl, HWn, hmn, p1, p2, kn⟩
        case measure => simp [intOf]; omega
      · obtain rfl : j = i := by omega
        go_wp2_with fail
        refine (HC1.out _ kb).mono ?_
        rintro e wp ⟨vp, rfl, hp, bp⟩
        obtain ⟨Ap, np, cp, rfl, hp⟩ := hp.open_
        have kp := bstep kb bp
        have RW := Lib.hid (HW.out.1.step bp)
        have LW := Lib.hid HW.out.2
        clear HW kb bp
        have C := pow_ok (j : Int) j hp (by omega) (by omega) (fun q hq => (BX.out.pow (by omega) q).bd (by omega))
        clear hp
        go_wp2_with fail
        refine C.mono ?_
        rintro e wq ⟨vq, rfl, hq, bq⟩
        obtain ⟨Aq, nq, cq, rfl, hq⟩ := hq.open_
        have bn := balloc wq (.cells #[.slice Aq nq cq] 27)
        have C2 := is_any (c := cw) (hq.step bn) ((RW.out.step bq).step bn) (by omega) hcw hcw2 LW.out.symm
        have kq := bstep (bstep kp bq) bn
        clear C hq bq bn RW LW kp
        go_wp2_with fail
        refine C2.mono ?_
        rintro e wz ⟨rfl, bz⟩
        have kz := bstep (bstep k1 kq) bz
        have kz := kz
        clear C2
        go_wp2_with fail
        go_ret
        exact ⟨rfl, kz⟩
  · rw [cmpN_lt hlt] at C
    clear hlt HZD
    go_wp2_with fail
    clear kE kB
    refine C.mono ?_
    rintro e w8 ⟨rfl, b8⟩
    have X3 := Lib.hid (X3'.out.step b8)
    have K3 := bstep K2.out b8
    clear C b8 X3' K2 K
    obtain ⟨A13, n13, c13, P13, H13⟩ := X3.out
    have y13 := (blk_cell P13).1
    have lt13 := P13.lt
    have C := len_bl H13
    clear H13
    go_wp2_with fail
    clear y13 lt13 P13
    refine C.mono ?_
    rintro e w9 ⟨⟨j, rfl, hj⟩, b9⟩
    obtain rfl : j = 0 := hj.same (by decide) ⟨by decide, .inl rfl⟩
    have KT := Lib.hid (bstep K3 b9)
    clear C hj b9 X3 K3
    go_wp2_with fail
    have hwant := want_one w9
    have kw := bstep KT.out (balloc w9 (.cells #[.int .u8 1] 5))
    generalize w9.alloc (.cells #[.int .u8 1] 5) = V at *
    generalize w9.heap.size = gw at *
    have HW := Lib.hid (And.intro hwant (show leN [1] = N ^ 0 from by rw [Nat.pow_zero]; rfl))
    clear hwant KT hu hb0 hub
    go_loopw [16, 107] (fun v y wr => ∃ (j : Nat) (Aw : Option Addr) (mw cw : Nat) (vs : List UInt8), j ≤ i ∧ y = .int .i64 ((j : Nat) : Int) ∧ v = .slice Aw mw cw ∧ Hid (Rd wr wr.heap.size Aw mw vs ∧ leN vs = N ^ j) ∧ mw ≤ 1 + 61 * j ∧ mw ≤ cw ∧ cw ≤ 9223372036854775807 ∧ Below w1.heap.size w1 wr) (fun _ y _ => i - (intOf y).toNat)
    case atStart => exact ⟨0, _, 1, 1, [1], by omega, rfl, rfl, HW, by omega, by omega, by omega, kw⟩
    case round =>
      clear HW kw
      obtain ⟨j, Aw, mw, cw, vs, hj, rfl, rfl, HW, hm, hcw, hcw2, kb⟩ := hrel
      by_cases hlt : j < i
      · have C := rmul_any (c := cw) (c2 := c) HW.out.1 (RX.out.step kb) (Nat.le_refl _) (Nat.le_refl _) (by omega) (by omega)
        rw [HW.out.2, LX.out] at C
        go_wp2_with fail
        refine C.mono ?_
        rintro e wn ⟨An, mn, cn, vn, rfl, rn, p1, p2, p3, hle, _, bn⟩
        have HWn := Lib.hid (And.intro rn (show leN vn = N ^ (j + 1) by rw [hle, Nat.pow_succ]))
        have kn := bstep kb bn
        have hmn : mn ≤ 1 + 61 * (j + 1) := by omega
        clear C rn hle bn
        go_wp2_with fail
        go_roundw
        case rel => exact ⟨j + 1, An, mn, cn, vn, by omega, by go_num, rfl, HWn, hmn, p1, p2, kn⟩
        case measure => simp [intOf]; omega
      · obtain rfl : j = i := by omega
        go_wp2_with fail
        refine (HC1.out _ kb).mono ?_
        rintro e wp ⟨vp, rfl, hp, bp⟩
        obtain ⟨Ap, np, cp, rfl, hp⟩ := hp.open_
        have kp := bstep kb bp
        have RW := Lib.hid (HW.out.1.step bp)
        have LW := Lib.hid HW.out.2
        clear HW kb bp
        have C := pow_ok (j : Int) j hp (by omega) (by omega) (fun q hq => (BX.out.pow (by omega) q).bd (by omega))
        clear hp
        go_wp2_with fail
        refine C.mono ?_
        rintro e wq ⟨vq, rfl, hq, bq⟩
        obtain ⟨Aq, nq, cq, rfl, hq⟩ := hq.open_
        have bn := balloc wq (.cells #[.slice Aq nq cq] 27)
        have C2 := is_any (c := cw) (hq.step bn) ((RW.out.step bq).step bn) (by omega) hcw hcw2 LW.out.symm
        have kq := bstep (bstep kp bq) bn
        clear C hq bq bn RW LW kp
        go_wp2_with fail
        refine C2.mono ?_
        rintro e wz ⟨rfl, bz⟩
        have kz := bstep (bstep k1 kq) bz
        have kz := kz
        clear C2
        go_wp2_with fail
        go_ret
        exact ⟨rfl, kz⟩
end Go.Proofs.YthfbgcjfnpajjaaDoor
