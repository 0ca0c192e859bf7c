import Derived.Test.YtghmaaeglejmbaaL02
import Derived.Test.YtghmaaeglejmbaaLin
import Derived.Test.YtghmaaeglejmbaaWords2
/- KernLinear: combinations are linear. -/
namespace Go.Proofs.Ytghmaaeglejmbaa
open Go.ChangeShapes Go.WideShapes Go.ChangeAt Go.RowKit
open Go.ChangeMaps (open_string shut_string)
set_option linter.unusedVariables false
set_option maxRecDepth 100000

/-! ### Same, which only reads -/
def Quiet (w wr : World) : Prop := ∃ d, wr = w.drewN d
theorem Quiet.refl (w : World) : Quiet w w := ⟨0, rfl⟩
theorem Quiet.step {w wr : World} (h : Quiet w wr) (n : Nat) : Quiet w (wr.drewN n) := by
  obtain ⟨d, rfl⟩ := h
  exact ⟨d + n, by rw [World.drewN_drewN]⟩
theorem Rd.quiet {w wr : World} {B n : Nat} {A : Option Addr} {us : List UInt8} (h : Rd w B A n us) (hq : Quiet w wr) : Rd wr B A n us := by
  obtain ⟨d, rfl⟩ := hq
  exact h
theorem same_quiet {B B2 : Nat} {A A2 : Option Addr} {n n2 c c2 : Nat} {us vs : List UInt8} {w : World} (h : Rd w B A n us) (h2 : Rd w B2 A2 n2 vs) (hl : n = n2) (hn : n ≤ 9223372036854775807) :
    Calls Try.prog 27 #[.slice A n c, .slice A2 n2 c2] w fun e w' => e = .returned (.bool (us == vs)) ∧ Quiet w w' := by
  subst hl
  have Hl := Lib.hid h.1
  have Hl2 := Lib.hid h2.1
  go_enter Try.func27, Try.ntmps27
  go_wp2
  go_loopw [5] (fun i wr => ∃ k : Nat, k ≤ n ∧ i = .int .i64 k ∧ Hid (prefixSame us vs k) ∧ Quiet w wr) (fun i _ => n - (intOf i).toNat)
  case atStart => exact ⟨0, by omega, rfl, Lib.hid rfl, Quiet.refl _⟩
  case round =>
    obtain ⟨k, hk, rfl, hp, hb⟩ := hrel
    by_cases hlt : k < n
    · obtain ⟨b, off, rfl, hbB, hc⟩ := (h.quiet hb).at_ hlt
      obtain ⟨b2, off2, rfl, hbB2, hc2⟩ := (h2.quiet hb).at_ hlt
      by_cases he : us[k]?.getD 0 = vs[k]?.getD 0
      · have t : (bv (us[k]?.getD 0) != bv (vs[k]?.getD 0)) = false := by rw [bv_bne]; simpa using he
        have Hp := Lib.hid (prefixSame_succ hp.out (by rw [Hl.out]; exact hlt) (by rw [Hl2.out]; exact hlt) he)
        clear he
        go_wp2_with fail
        go_quiet (fail)
        go_wp2_with fail
        go_roundw
        case rel => exact ⟨k + 1, by omega, by go_num, Hp, hb.step _⟩
        case measure => simp [intOf]; omega
      · have t : (bv (us[k]?.getD 0) != bv (vs[k]?.getD 0)) = true := by rw [bv_bne]; simpa using he
        have Hf := Lib.hid (same_false he)
        clear he
        go_wp2_with fail
        go_quiet (fail)
        go_wp2_with fail
        go_ret
        exact ⟨by rw [Hf.out]; rfl, hb.step _⟩
    · obtain rfl : k = n := by omega
      have Hf : Hid ((us == vs) = true) := Lib.hid (by
        have := hp.out
        unfold prefixSame at this
        rw [List.take_of_length_le (by rw [Hl.out]; omega), List.take_of_length_le (by rw [Hl2.out]; omega)] at this
        simpa using this)
      go_wp2_with fail
      go_ret
      exact ⟨by rw [Hf.out]; rfl, hb⟩

/-! ### What is not gone through -/
theorem linear_skip (x : UInt8) (A1 : Option Addr) (n1 c1 : Nat) (A2 : Option Addr) (n2 c2 : Nat) (A3 : Option Addr) (n3 c3 : Nat) (rows : List (List UInt8)) (w : World) (r3 : Rds w w.heap.size A3 n3 rows) (l3 : n3 ≤ 9223372036854775807)
    (hf : fewB rows = false ∨ n1 ≠ n3 ∨ n2 ≠ n3 ∨ n3 = 0) :
    Calls Try.prog 9 #[.int .u8 (bv x), .slice A1 n1 c1, .slice A2 n2 c2, .slice A3 n3 c3] w fun e w' => e = .returned (.bool true) ∧ Below w.heap.size w w' := by
  cases hb : fewB rows
  · clear hf
    go_enter Try.func9, Try.ntmps9
    go_wp2_with fail
    refine (awake2 _).mono ?_
    rintro e w1 ⟨rfl, hb1⟩
    go_wp2_with fail
    refine (few_any (r3.step hb1) l3).mono ?_
    rintro e w' ⟨rfl, rfl⟩
    go_wp2_with fail
    go_ret
    exact ⟨rfl, hb1⟩
  · by_cases h1 : n1 = n3
    · subst h1
      by_cases h2 : n2 = n1
      · subst h2
        have h3 : n2 = 0 := by
          rcases hf with h | h | h | h
          · rw [hb] at h; cases h
          · exact absurd rfl h
          · exact absurd rfl h
          · exact h
        subst h3
        clear hf
        go_enter Try.func9, Try.ntmps9
        go_wp2_with fail
        refine (awake2 _).mono ?_
        rintro e w1 ⟨rfl, hb1⟩
        go_wp2_with fail
        refine (few_any (r3.step hb1) l3).mono ?_
        rintro e w' ⟨rfl, rfl⟩
        go_wp2_with fail
        go_ret
        exact ⟨rfl, hb1⟩
      · have t : ((n2 : Int) != (n1 : Int)) = true := by rw [bne_iff_ne]; omega
        clear hf
        go_enter Try.func9, Try.ntmps9
        go_wp2_with fail
        refine (awake2 _).mono ?_
        rintro e w1 ⟨rfl, hb1⟩
        go_wp2_with fail
        refine (few_any (r3.step hb1) l3).mono ?_
        rintro e w' ⟨rfl, rfl⟩
        go_wp2_with fail
        go_ret
        exact ⟨rfl, hb1⟩
    · have t : ((n1 : Int) != (n3 : Int)) = true := by rw [bne_iff_ne]; omega
      clear hf
      go_enter Try.func9, Try.ntmps9
      go_wp2_with fail
      refine (awake2 _).mono ?_
      rintro e w1 ⟨rfl, hb1⟩
      go_wp2_with fail
      refine (few_any (r3.step hb1) l3).mono ?_
      rintro e w' ⟨rfl, rfl⟩
      go_wp2_with fail
      go_ret
      exact ⟨rfl, hb1⟩

theorem take_snoc {rows : List (List UInt8)} {k : Nat} (h : k < rows.length) : rows.take k ++ [rows[k]?.getD []] = rows.take (k + 1) := by
  rw [List.take_succ_eq_append_getElem h]
  simp [h]
set_option maxHeartbeats 4000000 in
theorem linear_main (x : UInt8) (A1 : Option Addr) (n c1 : Nat) (avs : List UInt8) (A2 : Option Addr) (c2 : Nat) (bvs2 : List UInt8) (A3 : Option Addr) (c3 : Nat) (rows : List (List UInt8)) (w : World)
    (r1 : Rd w w.heap.size A1 n avs) (r2 : Rd w w.heap.size A2 n bvs2) (r3 : Rds w w.heap.size A3 n rows) (hf : fewB rows = true) (hn0 : 0 < n) :
    Calls Try.prog 9 #[.int .u8 (bv x), .slice A1 n c1, .slice A2 n c2, .slice A3 n c3] w fun e w' => e = .returned (.bool true) ∧ Below w.heap.size w w' := by
  have hs := few_short hf
  have l3 : n ≤ 40 := by rw [← r3.1]; exact few_length hf
  have Hs := Lib.hid hs
  clear hs
  have t0 : ((n : Int) == 0) = false := by simp; omega
  have hn1 : (0 : Int) < (n : Int) := by omega
  have Hl := Lib.hid r3.1
  obtain ⟨i0, hi0, hz0, hz1, hz2'⟩ := info_parts row_info
  go_enter Try.func9, Try.ntmps9
  go_wp2_with fail
  refine (awake2 _).mono ?_
  rintro e w1 ⟨rfl, hb1⟩
  go_wp2_with fail
  refine (few_any (r3.step hb1) (by omega)).mono ?_
  rintro e w' ⟨rfl, rfl⟩
  go_wp2_with fail
  go_loopw [9, 53] (fun v i wr => ∃ k : Nat, k ≤ n ∧ i = .int .i64 k ∧ Hid (prefixLen (first rows) rows k) ∧ Was wr w.heap.size v (rows.take k) ∧ Below w.heap.size w wr) (fun _ i _ => n - (intOf i).toNat)
  case atStart => exact ⟨0, by omega, rfl, Lib.hid rfl, Was.nil _ _, hb1⟩
  case round =>
    clear hb1
    obtain ⟨k, hk, rfl, hp, hwas, hb⟩ := hrel
    have hz := hb.size
    by_cases hlt : k < n
    · obtain ⟨b, off, Ak, ck, rfl, hbB, hck, hrk⟩ := (r3.below hb).at_ hlt
      obtain ⟨b', off', A0, c0, hA, hbB', hc0, hr0⟩ := (r3.below hb).at_ hn0
      obtain ⟨rfl, rfl⟩ : b = b' ∧ off = off' := by simpa using hA
      clear hA
      rw [Nat.add_zero] at hc0
      change wr.cell? _ = some (.slice A0 (first rows) c0) at hc0
      by_cases he : (rows[k]?.getD []).length = first rows
      · have Hp := Lib.hid (prefixLen_succ hp.out (by rw [Hl.out]; exact hlt) he)
        have t : (((rows[k]?.getD []).length : Int) != (first rows : Int)) = false := by rw [he]; simp
        have Hsn := Lib.hid (take_snoc (rows := rows) (k := k) (by rw [Hl.out]; exact hlt))
        have hm : (rows[k]?.getD []).length ≤ 140737488355327 := by rw [he]; exact Hs.out.first
        clear he
        generalize rows[k]?.getD [] = us at *
        go_wp2_with (refine push_bytes (o := ⟨some 67, _, _, _, _, _⟩) rfl (.tmp 65) (.tmp 66) rfl w.heap.size _ 0 [] rfl (World.ownsRow_made (e := 5) (size := 1) wr #[] 0 hz (by unfold maxLen; omega) rfl) Ak us.length ck us rfl (hrk.below (balloc wr _ |>.mono hz)) (by omega) ?c3 ?_)
        case c3 => simp; omega
        intro v1 w2 hown1 hg1
        have hb2 : Below wr.heap.size wr w2 := (balloc wr _).trans (grown_below hg1 (by simp) (Nat.le_refl _))
        obtain ⟨A5, c5, rfl, hr5⟩ := Rd.of_own hown1
        have hz2 := hb2.size
        have hb3 : Below w.heap.size w w2 := bstep hb hb2
        have hwas2 := (hwas.below hb2).below (balloc w2 (.cells #[.slice A5 us.length c5] 22))
        have hown2 := hown1.alloc (.cells #[.slice A5 us.length c5] 22)
        obtain ⟨xs, hx1, hx2⟩ := hwas2
        have hk' : (rows.take k).length = k := by rw [List.length_take, Hl.out]; omega
        have hk40 : (rows.take k).length ≤ 40 := by omega
        have Hk' := Lib.hid hk'
        clear hk' hr5 hown1 hg1 hc0 hck hrk hr0 hwas
        go_wp2_with (refine wpList_append_own (o := ⟨some 69, _, _, _, _, _⟩) _ rfl (.tmp 64) (.tmp 68) _ rfl w.heap.size 22 i0 _ 1 24 Try.underlying41 hi0 hz0 hz1 hz2' rfl (by omega) _ (rows.take k).length xs rfl hx1 ⟨w2.heap.size, 0, none⟩ 1 1 [.slice A5 us.length c5] rfl rfl ?d1 ?d2 ?d3 ?d4 ?d5 ?_)
        case d1 => exact cells_one (by go_simp)
        case d2 => simp [Value.oneCell']
        case d3 => unfold maxLen; omega
        case d4 => omega
        case d5 => simp; omega
        intro v6 w6 ho6 hg6 _
        rw [← List.length_take] at ho6
        have hwas6 := Was.push hx1 hx2 hown2 ho6 hg6
        rw [Hsn.out] at hwas6
        have hb6 : Below w.heap.size w w6 := (bstep hb3 (balloc _ _)).trans (own_grown_below hx1 hg6 (by simp; omega))
        clear ho6 hg6 hx1 hx2 hown2
        go_wp2_with fail
        go_roundw
        case rel => exact ⟨k + 1, by omega, by go_num, Hp, hwas6, hb6⟩
        case measure => simp [intOf]; omega
      · have t : (((rows[k]?.getD []).length : Int) != (first rows : Int)) = true := by rw [bne_iff_ne]; omega
        clear he
        go_wp2_with fail
        go_ret
        exact ⟨rfl, hb⟩
    · obtain rfl : k = n := by omega
      have hlb := prefixLen_all hp.out Hl.out
      have hall : rows.take k = rows := List.take_of_length_le (by rw [Hl.out]; omega)
      rw [hall] at hwas
      obtain ⟨AW, cW, rfl, qW⟩ := hwas.rds
      clear hwas hall hp
      have hl1 := r1.1
      have hl2 := r2.1
      obtain ⟨X, hX⟩ : ∃ X, combTo avs rows (nulls (first rows)) k = X := ⟨_, rfl⟩
      obtain ⟨Y, hY⟩ : ∃ Y, combTo bvs2 rows (nulls (first rows)) k = Y := ⟨_, rfl⟩
      have hXl : X.length = first rows := by rw [← hX]; exact comb_len _ _ _ _
      have hYl : Y.length = first rows := by rw [← hY]; exact comb_len _ _ _ _
      have H1 : Hid (combR avs rows = (X, 0)) := Lib.hid (by rw [combR_some hl1 Hl.out hn0 rfl hlb, hX])
      have H2 : Hid (combR bvs2 rows = (Y, 0)) := Lib.hid (by rw [combR_some hl2 Hl.out hn0 rfl hlb, hY])
      have H3 : Hid (combR (ones 2) [avs, bvs2] = (add2L avs bvs2, 0)) := Lib.hid (combR_two (by rw [hl1, hl2]))
      have H4 : Hid (combR (add2L avs bvs2) rows = (add2L X Y, 0)) := Lib.hid (by rw [combR_some (by rw [add2L_length, hl1]) Hl.out hn0 rfl hlb, comb_add avs bvs2 rows _ k hl1 hl2, hX, hY])
      have H5 : Hid (combR (ones 2) [X, Y] = (add2L X Y, 0)) := Lib.hid (combR_two (by rw [hXl, hYl]))
      have H6 : Hid (combR (scaleL x avs) rows = (scaleL x X, 0)) := Lib.hid (by rw [combR_some (by rw [scaleL_length, hl1]) Hl.out hn0 rfl hlb, comb_scale, hX])
      have S1 : Hid (Short [avs, bvs2]) := Lib.hid (by
        intro r hr
        simp at hr
        rcases hr with rfl | rfl <;> omega)
      have S2 : Hid (Short [X, Y]) := Lib.hid (by
        have := Hs.out.first
        intro r hr
        simp at hr
        rcases hr with rfl | rfl <;> omega)
      clear hX hY hXl hYl hl1 hl2 hlb
      have q1 := (r1.below hb).more hz
      have q2 := (r2.below hb).more hz
      have q3 := (r3.below hb).more hz
      go_wp2_with fail
      refine (kcomb_all q1 q3 (Nat.le_refl _) (Nat.le_refl _) Hs.out (by omega)).mono ?_
      rw [H1.out]
      rintro e w3 ⟨A13, n13, c13, rfl, a3, m3, b3⟩
      replace q1 := q1.step b3
      replace q2 := q2.step b3
      replace q3 := q3.step b3
      replace qW := qW.step b3
      replace hb := bstep hb b3
      clear b3
      go_wp2_with fail
      refine (kcomb_all q2 q3 (Nat.le_refl _) (Nat.le_refl _) Hs.out (by omega)).mono ?_
      rw [H2.out]
      rintro e w4 ⟨A14, n14, c14, rfl, a4, m4, b4⟩
      replace q1 := q1.step b4
      replace q2 := q2.step b4
      replace q3 := q3.step b4
      replace qW := qW.step b4
      replace a3 := a3.step b4
      replace hb := bstep hb b4
      clear b4
      have bb5 := balloc w4 (.cells #[.slice A1 k c1, .slice A2 k c2] 22)
      have gg5 : Rds (w4.alloc (.cells #[.slice A1 k c1, .slice A2 k c2] 22)) (w4.heap.size + 1) (some ⟨w4.heap.size, 0, none⟩) 2 [avs, bvs2] := rds2 (c1 := c1) (c2 := c2) (by go_simp) (by go_simp) ((q1.below bb5).more (by omega)) ((q2.below bb5).more (by omega)) (by omega)
      have hsz5 : w4.heap.size + 1 ≤ (w4.alloc (.cells #[.slice A1 k c1, .slice A2 k c2] 22)).heap.size := by rw [World.size_alloc]; omega
      have C5 := Lib.hid (ksum_all (c := 2) gg5 hsz5 S1.out (by omega))
      clear gg5 hsz5
      go_wp2_with fail
      refine C5.out.mono ?_
      rw [H3.out]
      rintro e w5 ⟨A15, n15, c15, rfl, a5, m5, b5'⟩
      have b5 := bb5.trans (b5'.mono (by simp))
      clear b5' bb5 C5
      replace q1 := q1.step b5
      replace q3 := q3.step b5
      replace qW := qW.step b5
      replace a3 := a3.step b5
      replace a4 := a4.step b5
      replace hb := bstep hb b5
      clear b5
      go_wp2_with fail
      refine (kcomb_all a5 q3 (Nat.le_refl _) (Nat.le_refl _) Hs.out (by omega)).mono ?_
      rw [H4.out]
      rintro e w6 ⟨A16, n16, c16, rfl, a6, m6, b6⟩
      replace q1 := q1.step b6
      replace q3 := q3.step b6
      replace qW := qW.step b6
      replace a3 := a3.step b6
      replace a4 := a4.step b6
      replace hb := bstep hb b6
      clear b6
      have bb7 := balloc w6 (.cells #[.slice A13 n13 c13, .slice A14 n14 c14] 22)
      have gg7 : Rds (w6.alloc (.cells #[.slice A13 n13 c13, .slice A14 n14 c14] 22)) (w6.heap.size + 1) (some ⟨w6.heap.size, 0, none⟩) 2 [X, Y] := rds2 (c1 := c13) (c2 := c14) (by go_simp) (by go_simp) ((a3.below bb7).more (by omega)) ((a4.below bb7).more (by omega)) (by omega)
      have hsz7 : w6.heap.size + 1 ≤ (w6.alloc (.cells #[.slice A13 n13 c13, .slice A14 n14 c14] 22)).heap.size := by rw [World.size_alloc]; omega
      have C7 := Lib.hid (ksum_all (c := 2) gg7 hsz7 S2.out (by omega))
      clear gg7 hsz7
      go_wp2_with fail
      refine C7.out.mono ?_
      rw [H5.out]
      rintro e w7 ⟨A17, n17, c17, rfl, a7, m7, b7'⟩
      have b7 := bb7.trans (b7'.mono (by simp))
      clear b7' bb7 C7
      replace q1 := q1.step b7
      replace q3 := q3.step b7
      replace qW := qW.step b7
      replace a3 := a3.step b7
      replace a6 := a6.step b7
      replace hb := bstep hb b7
      clear b7
      go_wp2_with fail
      refine (kscale_says x q1 (Nat.le_refl _) (by omega)).mono ?_
      rintro e w8 ⟨A18, c18, rfl, a8, b8⟩
      replace q3 := q3.step b8
      replace qW := qW.step b8
      replace a3 := a3.step b8
      replace a6 := a6.step b8
      replace a7 := a7.step b8
      replace hb := bstep hb b8
      clear b8
      go_wp2_with fail
      refine (kcomb_all a8 q3 (Nat.le_refl _) (Nat.le_refl _) Hs.out (by omega)).mono ?_
      rw [H6.out]
      rintro e w9 ⟨A19, n19, c19, rfl, a9, m9, b9⟩
      replace q3 := q3.step b9
      replace qW := qW.step b9
      replace a3 := a3.step b9
      replace a6 := a6.step b9
      replace a7 := a7.step b9
      replace hb := bstep hb b9
      clear b9
      go_wp2_with fail
      refine (same_any a6 a7 (Nat.le_refl _) (Nat.le_refl _) (by omega)).mono ?_
      rw [show (((add2L X Y, 0) : List UInt8 × Int).1 == ((add2L X Y, 0) : List UInt8 × Int).1) = true from by simp]
      rintro e w20 ⟨rfl, b20⟩
      replace q3 := q3.step b20
      replace qW := qW.step b20
      replace a3 := a3.step b20
      replace a9 := a9.step b20
      replace hb := bstep hb b20
      clear b20 a6 a7
      go_wp2_with fail
      refine (kscale_says x a3 (Nat.le_refl _) m3).mono ?_
      rintro e w21 ⟨A21, c21, rfl, a21, b21⟩
      replace q3 := q3.step b21
      replace qW := qW.step b21
      replace a3 := a3.step b21
      replace a9 := a9.step b21
      replace hb := bstep hb b21
      clear b21
      go_wp2_with fail
      refine (same_any a9 a21 (Nat.le_refl _) (Nat.le_refl _) (by omega)).mono ?_
      rw [show (((scaleL x X, 0) : List UInt8 × Int).1 == scaleL x ((X, 0) : List UInt8 × Int).1) = true from by simp]
      rintro e w22 ⟨rfl, b22⟩
      replace q3 := q3.step b22
      replace qW := qW.step b22
      replace a3 := a3.step b22
      replace hb := bstep hb b22
      clear b22 a9 a21
      clear H1 H2 H3 H4 H5 H6 S1 S2 r1 r2 r3
      have Hd : Hid (ginv x = ginv x) := Lib.hid rfl
      have hbq := hb
      go_wp2_with fail
      go_loopw [149] (fun i wr => ∃ j : Nat, j ≤ k ∧ i = .int .i64 j ∧ Below w22.heap.size w22 wr) (fun i _ => k - (intOf i).toNat)
      case atStart => exact ⟨0, by omega, rfl, Below.refl _ _⟩
      case round =>
        clear hbq
        obtain ⟨j, hj, rfl, hb2⟩ := hrel
        have q4 := (q3.below hb2)
        have q5 := (qW.below hb2)
        by_cases hjk : j < k
        · obtain ⟨b, off, Ak, ck, rfl, hbB, hck, hrk⟩ := q4.at_ hjk
          obtain ⟨b', off', Bk, ck', rfl, hbB', hck', hrk'⟩ := q5.at_ (show j < rows.length by rw [Hl.out]; exact hjk)
          have hlw : (j : Int) < (rows.length : Int) := by have := Hl.out; omega
          have hlu : (rows[j]?.getD []).length ≤ 9223372036854775807 := by
            have : (rows[j]?.getD []).length ≤ 140737488355327 := by
              have hjl : j < rows.length := by rw [Hl.out]; exact hjk
              simp only [List.getElem?_eq_getElem hjl, Option.getD_some]
              exact Hs.out _ (List.getElem_mem _)
            omega
          generalize rows[j]?.getD [] = us at *
          have C := fun (d : Nat) => same_quiet (c := ck) (c2 := ck') (w := wr.drewN d) hrk hrk' rfl hlu
          rw [show (us == us) = true from by simp] at C
          have HC := Lib.hid C
          clear C
          go_wp2_with fail
          go_quiet ((go_at_call 27; exact Calls.quiet_of (HC.out _)))
          go_wp2_with fail
          go_roundw
          case rel => exact ⟨j + 1, by omega, by go_num, below_drewN hb2 _⟩
          case measure => simp [intOf]; omega
        · obtain rfl : j = k := by omega
          have hb3 := bstep hb hb2
          have a3' := a3.step hb2
          clear q4 q5 q3 qW a3 hb2 hb
          by_cases hx0 : x = 0
          · subst hx0
            go_wp2_with fail
            refine (show Calls Try.prog 14 #[.int .u8 (bv 0)] _ _ from inv_zero wr).mono ?_
            rintro e w' ⟨rfl, rfl⟩
            go_wp2_with fail
            go_ret
            exact ⟨rfl, hb3⟩
          · go_wp2_with fail
            refine (inv_some x hx0 _).mono ?_
            rintro e w' ⟨rfl, rfl⟩
            go_wp2_with fail
            refine (kscale_says x a3' (Nat.le_refl _) m3).mono ?_
            rintro e w23 ⟨A23, c23, rfl, a23, b23⟩
            replace a3' := a3'.step b23
            replace hb3 := bstep hb3 b23
            clear b23
            go_wp2_with fail
            refine (kscale_says (ginv x) a23 (Nat.le_refl _) m3).mono ?_
            rw [show scaleL (ginv x) (scaleL x ((X, 0) : List UInt8 × Int).1) = X from scale_back hx0 X]
            rintro e w24 ⟨A24, c24, rfl, a24, b24⟩
            replace a3' := a3'.step b24
            replace hb3 := bstep hb3 b24
            clear b24
            go_wp2_with fail
            refine (same_any a24 a3' (Nat.le_refl _) (Nat.le_refl _) (by omega)).mono ?_
            rw [show (X == ((X, 0) : List UInt8 × Int).1) = true from by simp]
            rintro e w25 ⟨rfl, b25⟩
            replace hb3 := bstep hb3 b25
            go_wp2_with fail
            go_ret
            exact ⟨rfl, hb3⟩
theorem linear_walk (x : UInt8) (A1 : Option Addr) (n1 c1 : Nat) (us1 : List UInt8) (A2 : Option Addr) (n2 c2 : Nat) (us2 : List UInt8) (A3 : Option Addr) (n3 c3 : Nat) (rows : List (List UInt8)) (w : World)
    (r1 : Rd w w.heap.size A1 n1 us1) (l1 : n1 ≤ c1 ∧ c1 ≤ maxLen) (r2 : Rd w w.heap.size A2 n2 us2) (l2 : n2 ≤ c2 ∧ c2 ≤ maxLen) (r3 : Rds w w.heap.size A3 n3 rows) (l3 : n3 ≤ c3 ∧ c3 ≤ maxLen) :
    Calls Try.prog 9 #[.int .u8 (bv x), .slice A1 n1 c1, .slice A2 n2 c2, .slice A3 n3 c3] w fun e w' => e = .returned (.bool true) ∧ Below w.heap.size w w' := by
  have h3 : n3 ≤ 9223372036854775807 := by have := l3; unfold maxLen at this; omega
  by_cases h : fewB rows = true ∧ n1 = n3 ∧ n2 = n3 ∧ 0 < n3
  · obtain ⟨hf, rfl, rfl, hn⟩ := h
    exact linear_main x A1 _ c1 us1 A2 c2 us2 A3 c3 rows w r1 r2 r3 hf hn
  · refine linear_skip x A1 n1 c1 A2 n2 c2 A3 n3 c3 rows w r3 h3 ?_
    by_cases hf : fewB rows = true
    · right
      by_cases h1 : n1 = n3
      · right
        by_cases h2 : n2 = n3
        · right
          by_cases h0 : 0 < n3
          · exact absurd ⟨hf, h1, h2, h0⟩ h
          · omega
        · exact .inl h2
      · exact .inl h1
    · exact .inl (by simpa using hf)

/-! ### The frame of 'KernLinear' -/
namespace kernLinear
theorem own : ownKnob Try.prog.godebug = none := by kernel_rfl
theorem laidOut : laidOutB Try.prog = true := by kernel_rfl
theorem lifted (os : Os) (started : os.Started) (H : Type) (enc : TypeId × Value → H) :
    ReturnsInHanded {} Try.checked os 9 .any (Rows.kernLinearSpec.pre6 enc Try.prog Try.f9 Rows.kernLinearRow.domain false) (Rows.kernLinearSpec.post enc Try.prog Try.f9 false true false false) := by
  refine returnsInHanded_of_change (C := Try.checked) own started (by kernel_rfl) Try.func9
    (ChangeSpec.witness6 (enc := enc) (C := Try.checked) false ⟨#[], #[.int .u8 0, .slice none 0 0, .slice none 0 0, .slice none 0 0], []⟩ 8 (by kernel_rfl) (by kernel_rfl) (by kernel_rfl) (by kernel_rfl)) ?_
  intro W base args ds gs before hval0 hW hcnd _
  have hval : ∀ (j : Nat) t v, Try.f9.params[j]? = some t → args[j]? = some v → Value.okWide Try.prog W .any base t v := hval0
  have hW' := hW
  obtain ⟨p, q, hA0, hV, rfl, hfz, hnd⟩ := hW
  have hA : DataW.TrodAll enc Try.prog W 0 (fun _ => true) true Try.f9.params.toList args.toList ds p := hA0
  rw [Try.params9] at hA hval
  obtain ⟨v0, vs0, d0, ds0, p0, q0, hargs, rfl, rfl, h0, q0'⟩ := trodAll_cons hA
  obtain ⟨v1, vs1, d1, ds1, p1, q1, rfl, rfl, rfl, h1, q1'⟩ := trodAll_cons q0'
  obtain ⟨v2, vs2, d2, ds2, p2, q2, rfl, rfl, rfl, h2, q2'⟩ := trodAll_cons q1'
  obtain ⟨v3, vs3, d3, ds3, p3, q3, rfl, rfl, rfl, h3, q3'⟩ := trodAll_cons q2'
  obtain ⟨rfl, rfl, rfl⟩ := trodAll_nil q3'
  obtain rfl : args = #[v0, v1, v2, v3] := by cases args; simp_all
  obtain ⟨rfl, rfl⟩ := trodVars_none hV
  have k0 := h0
  have lt0 : ∀ x ∈ p0, x.block < W.heap.size := by obtain ⟨m, hm⟩ := k0; exact DataW.trod_lt m _ _ _ hm
  have k1 := h1
  have lt1 : ∀ x ∈ p1, x.block < W.heap.size := by obtain ⟨m, hm⟩ := k1; exact DataW.trod_lt m _ _ _ hm
  have k2 := h2
  have lt2 : ∀ x ∈ p2, x.block < W.heap.size := by obtain ⟨m, hm⟩ := k2; exact DataW.trod_lt m _ _ _ hm
  have k3 := h3
  have lt3 : ∀ x ∈ p3, x.block < W.heap.size := by obtain ⟨m, hm⟩ := k3; exact DataW.trod_lt m _ _ _ hm
  obtain ⟨a0, rfl, rfl, rfl, w0⟩ := open_int Try.underlying5 (hval 0 5 v0 rfl rfl) h0
  obtain ⟨u0, rfl⟩ := byte_of w0
  obtain ⟨A1, n1, c1, rfl⟩ := okWide_slice Try.underlying22 (hval 1 22 v1 rfl rfl)
  obtain ⟨us1, r1, l1⟩ := bytes_arg Try.underlying22 Try.underlying5 (by kernel_rfl) h1
  obtain ⟨A2, n2, c2, rfl⟩ := okWide_slice Try.underlying22 (hval 2 22 v2 rfl rfl)
  obtain ⟨us2, r2, l2⟩ := bytes_arg Try.underlying22 Try.underlying5 (by kernel_rfl) h2
  obtain ⟨A3, n3, c3, rfl⟩ := okWide_slice Try.underlying41 (hval 3 41 v3 rfl rfl)
  obtain ⟨us3, r3, l3⟩ := rows_arg Try.underlying41 Try.underlying22 Try.underlying5 (by kernel_rfl) (by kernel_rfl) h3
  clear hA0 hval0
  refine (linear_walk u0 A1 n1 c1 us1 A2 n2 c2 us2 A3 n3 c3 us3 W r1 l1 r2 l2 r3 l3).mono fun e W' ⟨he, bel⟩ => ?_
  subst he
  exact ⟨_, rfl, _, _, _, [], _, [], hW', trodAll_mk1 (shut_bool Try.underlying4 _), (trodAll_cons_mk (Below.trod laidOut (by kernel_rfl) (of_decide_eq_true (by kernel_rfl)) k0 bel lt0) (trodAll_cons_mk (Below.trod laidOut (by kernel_rfl) (of_decide_eq_true (by kernel_rfl)) k1 bel lt1) (trodAll_cons_mk (Below.trod laidOut (by kernel_rfl) (of_decide_eq_true (by kernel_rfl)) k2 bel lt2) (trodAll_cons_mk (Below.trod laidOut (by kernel_rfl) (of_decide_eq_true (by kernel_rfl)) k3 bel lt3) trodAll_mk0)))), rfl, bel.frame _, fun h => by cases h⟩

theorem over : Rows.kernLinearRow.holds Try.pinned (OpenSpec.ofChange Rows.kernLinearSpec) :=
  OpenClaim.holds_of_wide 9 Try.f9 rfl rfl rfl rfl rfl rfl rfl ⟨rfl, rfl, rfl, rfl, rfl⟩ rfl rfl rfl rfl rfl (by kernel_rfl) Try.func9 (by kernel_rfl)
    (of_decide_eq_true (by kernel_rfl)) (by unfold Func.isWrapper; first | (rw [if_pos (by decide +kernel)]; kernel_rfl) | (rw [if_neg (by decide +kernel)]; exact ⟨rfl, rfl⟩))
    (fun os started H enc _ => lifted os started H enc)
/-- The statement. -/
theorem proved : Rows.KernLinearSaid := over
end kernLinear
end Go.Proofs.Ytghmaaeglejmbaa
