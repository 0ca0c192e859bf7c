import Derived.Test.YthfbgcjfnpajjaaMixB
import Derived.ProofKit
import Derived.OpenShut
/- MixNone, MixRows: walks and frames. -/
namespace Go.Proofs.Ythfbgcjfnpajjaa
open Go.ChangeShapes Go.WideShapes Go.ChangeAt Go.RowKit
set_option linter.unusedVariables false
set_option maxRecDepth 100000

theorem rows5_skip (z n : Int) (A3 : Option Addr) (n3 c3 : Nat) (w : World) (l3 : n3 ≤ 9223372036854775807) (h : (500 < n ∧ n ≤ 65536) ∨ 100 < n3) :
    Calls Try.prog 4 #[.int .u64 z, .int .i64 n, .slice A3 n3 c3] w fun e w' => e = .returned (.bool true) ∧ Below w.heap.size w w' := by
  by_cases h2 : 500 < n ∧ n ≤ 65536
  · obtain ⟨h3, h4⟩ := h2
    clear h
    go_enter Try.func4, Try.ntmps4
    go_wp2_with fail
    refine (awake5 _).mono ?_
    rintro e w1 ⟨rfl, h1⟩
    go_wp2_with fail
    go_ret
    exact ⟨rfl, h1⟩
  · have h3 : 100 < n3 := h.resolve_left h2
    clear h
    by_cases h4 : 500 < n
    · have h5 : ¬ n ≤ 65536 := fun h => h2 ⟨h4, h⟩
      clear h2
      go_enter Try.func4, Try.ntmps4
      go_wp2_with fail
      refine (awake5 _).mono ?_
      rintro e w1 ⟨rfl, h1⟩
      go_wp2_with fail
      go_ret
      exact ⟨rfl, h1⟩
    · clear h2
      go_enter Try.func4, Try.ntmps4
      go_wp2_with fail
      refine (awake5 _).mono ?_
      rintro e w1 ⟨rfl, h1⟩
      go_wp2_with fail
      go_ret
      exact ⟨rfl, h1⟩
set_option maxHeartbeats 1000000 in
theorem rows5_main (s : Nat) (hs : s < 18446744073709551616) (n : Int) (A3 : Option Addr) (n3 c3 : Nat) (us3 : List UInt8) (w : World) (r3 : Rd w w.heap.size A3 n3 us3) (hn : n ≤ 500 ∨ 65536 < n) (l3 : n3 ≤ 100) :
    Calls Try.prog 4 #[.int .u64 (uv s), .int .i64 n, .slice A3 n3 c3] w fun e w' => e = .returned (.bool true) ∧ Below w.heap.size w w' := by
  have Hs := Lib.hid hs
  have t1 : (uv s != uv s) = false := by simp
  have tp : (lowB s 8 == lowB s 8) = true := by simp
  have Hn := Lib.hid hn
  have hb8 : beN (lowB s 8) = s := by rw [beN_low]; omega
  have Hb8 := Lib.hid hb8
  have e8 : (lowB s 8).length = 8 := lowB_length s 8
  have RF := Lib.hid (fun (q : Nat) (X : World) (g : Nat) (h : Blk X g 5 (bvs (lowB q 8)).toArray) => (show Rd X (g + 1) (some ⟨g, 0, none⟩) 8 (lowB q 8) by
    have := Rd.of_blk h
    rwa [lowB_length] at this))
  clear hs hb8 hn e8
  have hA : n < 0 ∨ (0 ≤ n ∧ n ≤ 500) ∨ 65536 < n := by have := Hn.out; omega
  rcases hA with h | ⟨h, h'⟩ | h
  go_enter Try.func4, Try.ntmps4
  go_wp2_with fail
  refine (awake5 _).mono ?_
  rintro e w1 ⟨rfl, b1⟩
  go_wp2_with fail
  refine (row_no s n (.inl h) _).mono ?_
  rintro e w2 ⟨rfl, b2⟩
  have hb := bstep b1 b2
  clear b1 b2
  go_wp2_with fail
  rotate_left
  obtain ⟨m, rfl⟩ : ∃ m : Nat, n = (m : Int) := ⟨n.toNat, by omega⟩
  have hm : m ≤ 500 := by omega
  have tm : (mixL s m == mixL s m) = true := by simp
  have lm := Lib.hid (mixL_length s m)
  clear h'
  go_enter Try.func4, Try.ntmps4
  go_wp2_with fail
  refine (awake5 _).mono ?_
  rintro e w1 ⟨rfl, b1⟩
  go_wp2_with fail
  refine (row_any s m (by omega) _ Hs.out).mono ?_
  rintro e w2 ⟨g, rfl, K2, hk2, b2⟩
  have hb2 := bstep b1 b2
  go_wp2_with fail
  refine (refbytes_any s m (by omega) Hs.out _).mono ?_
  rintro e w3 ⟨A, c, rfl, R3, b3⟩
  have hb3 := bstep hb2 b3
  have R2 := Rd.of_blk (K2.below b3 K2.lt)
  rw [lm.out] at R2
  have S := same_any (c := m) (c2 := c) R2 R3 (Nat.le_trans K2.lt b3.size) (Nat.le_refl _) (by omega)
  rw [tm] at S
  clear K2 R2 R3
  go_wp2_with fail
  refine S.mono ?_
  rintro e w4 ⟨rfl, b4⟩
  have hb := bstep hb3 b4
  clear S b1 b2 b3 b4 hb2 hb3 tm
  go_wp2_with fail
  rotate_left
  have h' : ¬ n < 0 := by omega
  go_enter Try.func4, Try.ntmps4
  go_wp2_with fail
  refine (awake5 _).mono ?_
  rintro e w1 ⟨rfl, b1⟩
  go_wp2_with fail
  refine (row_no s n (.inr h) _).mono ?_
  rintro e w2 ⟨rfl, b2⟩
  have hb := bstep b1 b2
  clear b1 b2
  go_wp2_with fail
  rotate_left
  all_goals
    refine (put_any s Hs.out _).mono ?_
    rintro e w4 ⟨g4, rfl, B4, b4⟩
    have k4 := bstep hb b4
    have G := seed_eight (c := 8) (RF.out _ _ _ B4)
    rw [Hb8.out] at G
    clear B4
    go_wp2_with fail
    refine G.mono ?_
    rintro e w' ⟨rfl, rfl⟩
    clear G
    go_wp2_with fail
    by_cases h8 : n3 = 8
    · subst h8
      have hl := beN_lt us3
      rw [r3.1] at hl
      have hq := low_beN us3
      rw [r3.1] at hq
      have Hq := Lib.hid hq
      have Hl := Lib.hid hl
      clear hl hq
      refine (seed_eight (c := c3) (r3.below k4)).mono ?_
      rintro e w' ⟨rfl, rfl⟩
      generalize beN us3 = y at *
      have ts : (us3 == us3) = true := by simp
      go_wp2_with fail
      refine (put_any s Hs.out _).mono ?_
      rintro e w5 ⟨g5, rfl, B5, b5⟩
      have k5 := bstep k4 b5
      go_wp2_with fail
      refine (refput_any s Hs.out _).mono ?_
      rintro e w6 ⟨A6, c6, rfl, R6, b6⟩
      have k6 := bstep k5 b6
      have S := same_any (c := 8) (c2 := c6) (RF.out _ _ _ (B5.below b6 B5.lt)) R6 (Nat.le_trans B5.lt b6.size) (Nat.le_refl _) (by omega)
      rw [tp] at S
      clear B5 R6
      go_wp2_with fail
      refine S.mono ?_
      rintro e w7 ⟨rfl, b7⟩
      have k7 := bstep k6 b7
      clear S
      go_wp2_with fail
      refine (refput_any y Hl.out _).mono ?_
      rintro e w8 ⟨A8, c8, rfl, R8, b8⟩
      have k8 := bstep k7 b8
      rw [Hq.out] at R8
      have S := same_any (c := c8) (c2 := c3) R8 (r3.below k8) (Nat.le_refl _) k8.size (by omega)
      rw [ts] at S
      clear R8
      go_wp2_with fail
      refine S.mono ?_
      rintro e w9 ⟨rfl, b9⟩
      have k9 := bstep k8 b9
      clear S
      go_wp2_with fail
      go_ret
      exact ⟨rfl, k9⟩
    · have t8 : ((n3 : Int) != 8) = true := by simp; omega
      refine (seed_size h8 (by omega)).mono ?_
      rintro e w' ⟨rfl, rfl⟩
      clear h8
      go_wp2_with fail
      refine (put_any s Hs.out _).mono ?_
      rintro e w5 ⟨g5, rfl, B5, b5⟩
      have k5 := bstep k4 b5
      go_wp2_with fail
      refine (refput_any s Hs.out _).mono ?_
      rintro e w6 ⟨A6, c6, rfl, R6, b6⟩
      have k6 := bstep k5 b6
      have S := same_any (c := 8) (c2 := c6) (RF.out _ _ _ (B5.below b6 B5.lt)) R6 (Nat.le_trans B5.lt b6.size) (Nat.le_refl _) (by omega)
      rw [tp] at S
      clear B5 R6
      go_wp2_with fail
      refine S.mono ?_
      rintro e w7 ⟨rfl, b7⟩
      have k7 := bstep k6 b7
      clear S
      go_wp2_with fail
      go_ret
      exact ⟨rfl, k7⟩
theorem rows5_walk (z n : Int) (A3 : Option Addr) (n3 c3 : Nat) (us3 : List UInt8) (w : World) (w1 : (Lit.int .u64 z).wf = true) (w2 : (Lit.int .i64 n).wf = true) (r3 : Rd w w.heap.size A3 n3 us3) (l3 : n3 ≤ c3 ∧ c3 ≤ maxLen) :
    Calls Try.prog 4 #[.int .u64 z, .int .i64 n, .slice A3 n3 c3] w fun e w' => e = .returned (.bool true) ∧ Below w.heap.size w w' := by
  have b1 := bounds_u64 w1
  unfold maxLen at l3
  by_cases h : (500 < n ∧ n ≤ 65536) ∨ 100 < n3
  · exact rows5_skip z n A3 n3 c3 w (by omega) h
  · have e : z = uv z.toNat := by unfold uv; omega
    rw [e]
    exact rows5_main z.toNat (by omega) n A3 n3 c3 us3 w r3 (by omega) (by omega)

/-! ### The frame of 'MixNone' -/
/-! ### The frame of 'MixRows' -/
namespace mixRows
theorem own : ownKnob Try.prog.godebug = none := by kernel_rfl
theorem laidOut : laidOutB Try.prog = true := by kernel_rfl
theorem lifted (os : Os) (started : os.Started) (H : Type) (enc : TypeId × Value → H) :
    ReturnsInHanded {} Try.checked os 4 .any (Rows.mixRowsSpec.pre6 enc Try.prog Try.f4 Rows.mixRowsRow.domain false) (Rows.mixRowsSpec.post enc Try.prog Try.f4 false true false false) := by
  refine returnsInHanded_of_change (C := Try.checked) own started (by kernel_rfl) Try.func4
    (ChangeSpec.witness6 (enc := enc) (C := Try.checked) false ⟨#[], #[.int .u64 0, .int .i64 0, .slice none 0 0], []⟩ 8 (by kernel_rfl) (by kernel_rfl) (by kernel_rfl) (by kernel_rfl)) ?_
  intro W base args ds gs before hval0 hW hcnd _
  have hval : ∀ (j : Nat) t v, Try.f4.params[j]? = some t → args[j]? = some v → Value.okWide Try.prog W .any base t v := hval0
  have hW' := hW
  obtain ⟨p, q, hA0, hV, rfl, hfz, hnd⟩ := hW
  have hA : DataW.TrodAll enc Try.prog W 0 (fun _ => true) true Try.f4.params.toList args.toList ds p := hA0
  rw [Try.params4] at hA hval
  obtain ⟨v0, vs0, d0, ds0, p0, q0, hargs, rfl, rfl, h0, q0'⟩ := trodAll_cons hA
  obtain ⟨v1, vs1, d1, ds1, p1, q1, rfl, rfl, rfl, h1, q1'⟩ := trodAll_cons q0'
  obtain ⟨v2, vs2, d2, ds2, p2, q2, rfl, rfl, rfl, h2, q2'⟩ := trodAll_cons q1'
  obtain ⟨rfl, rfl, rfl⟩ := trodAll_nil q2'
  obtain rfl : args = #[v0, v1, v2] := by cases args; simp_all
  obtain ⟨rfl, rfl⟩ := trodVars_none hV
  have k0 := h0
  have lt0 : ∀ x ∈ p0, x.block < W.heap.size := by obtain ⟨m, hm⟩ := k0; exact DataW.trod_lt m _ _ _ hm
  have k1 := h1
  have lt1 : ∀ x ∈ p1, x.block < W.heap.size := by obtain ⟨m, hm⟩ := k1; exact DataW.trod_lt m _ _ _ hm
  have k2 := h2
  have lt2 : ∀ x ∈ p2, x.block < W.heap.size := by obtain ⟨m, hm⟩ := k2; exact DataW.trod_lt m _ _ _ hm
  obtain ⟨a0, rfl, rfl, rfl, w0⟩ := open_int Try.underlying22 (hval 0 22 v0 rfl rfl) h0
  obtain ⟨a1, rfl, rfl, rfl, w1⟩ := open_int Try.underlying3 (hval 1 3 v1 rfl rfl) h1
  obtain ⟨A2, n2, c2, rfl⟩ := okWide_slice Try.underlying31 (hval 2 31 v2 rfl rfl)
  obtain ⟨us2, r2, l2⟩ := bytes_arg Try.underlying31 Try.underlying5 (by kernel_rfl) h2
  clear hA0 hval0
  refine (rows5_walk a0 a1 A2 n2 c2 us2 W w0 w1 r2 l2).mono fun e W' ⟨he, bel⟩ => ?_
  subst he
  exact ⟨_, rfl, _, _, _, [], _, [], hW', trodAll_mk1 (shut_bool Try.underlying4 _), (trodAll_cons_mk (Below.trod laidOut (by kernel_rfl) (of_decide_eq_true (by kernel_rfl)) k0 bel lt0) (trodAll_cons_mk (Below.trod laidOut (by kernel_rfl) (of_decide_eq_true (by kernel_rfl)) k1 bel lt1) (trodAll_cons_mk (Below.trod laidOut (by kernel_rfl) (of_decide_eq_true (by kernel_rfl)) k2 bel lt2) trodAll_mk0))), rfl, bel.frame _, fun h => by cases h⟩

theorem over : Rows.mixRowsRow.holds Try.pinned (OpenSpec.ofChange Rows.mixRowsSpec) :=
  OpenClaim.holds_of_wide 4 Try.f4 rfl rfl rfl rfl rfl rfl rfl ⟨rfl, rfl, rfl, rfl, rfl⟩ rfl rfl rfl rfl rfl (by kernel_rfl) Try.func4 (by kernel_rfl)
    (of_decide_eq_true (by kernel_rfl)) (by unfold Func.isWrapper; first | (rw [if_pos (by decide +kernel)]; kernel_rfl) | (rw [if_neg (by decide +kernel)]; exact ⟨rfl, rfl⟩))
    (fun os started H enc _ => lifted os started H enc)
/-- The statement. -/
theorem proved : Rows.MixRowsSaid := over
end mixRows
end Go.Proofs.Ythfbgcjfnpajjaa
