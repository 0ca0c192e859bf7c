import Derived.Test.YthfbgcjfnpajjaaMixB
import Derived.ProofKit
import Derived.OpenShut
/- MixApart: walk and frame. -/
namespace Go.Proofs.Ythfbgcjfnpajjaa
open Go.ChangeShapes Go.WideShapes Go.ChangeAt Go.RowKit
set_option linter.unusedVariables false
set_option maxRecDepth 100000

theorem Rd.part {w : World} {g lo n : Nat} {t : TypeId} {us : List UInt8} (h : Blk w g t (bvs us).toArray) (hl : lo + n ≤ us.length) : Rd w (g + 1) (some ⟨g, lo, none⟩) n ((us.drop lo).take n) := by
  refine ⟨by simp; omega, fun _ => ⟨g, lo, rfl, by omega, fun i u hu => ?_⟩⟩
  rw [h.cell (lo + i)]
  have hi : i < n := by
    have := (List.getElem?_eq_some_iff.1 hu).1
    simp at this; omega
  rw [List.getElem?_take, if_pos hi, List.getElem?_drop] at hu
  simpa using bvs_get us (lo + i) u hu
theorem next_ne {a b : Nat} (ha : a < 18446744073709551616) (hb : b < 18446744073709551616) (h : a ≠ b) : (uv (stir (st a 1)) == uv (stir (st b 1))) = false ∧ (uv a == uv b) = false := by
  rw [uv_beq, uv_beq]
  exact ⟨by simpa using fun e => h (st_inj ha hb (stir_inj (st_lt _ _) (st_lt _ _) e)), by simpa using h⟩
set_option maxHeartbeats 1000000 in
theorem apart_main (a b k : Nat) (u : UInt8) (ha : a < 18446744073709551616) (hb : b < 18446744073709551616) (hu : bv u % 60 = (k : Int)) (w : World) :
    Calls Try.prog 5 #[.int .u64 (uv a), .int .u64 (uv b), .int .u8 (bv u)] w fun e w' => e = .returned (.bool true) ∧ Below w.heap.size w w' := by
  have hk : k < 60 := by omega
  have Ha := Lib.hid ha
  have Hb := Lib.hid hb
  have b0 := bv_nn u
  have b1 := bv_lt u
  have lm := Lib.hid (mixL_length a (8 * k))
  have e8 : (8 * (k : Int)) = ((8 * k : Nat) : Int) := by omega
  have h8k : 8 * k ≤ 65536 := by omega
  have hkk : (8 * k + 7) / 8 = k := by omega
  have B8 := fun X g => bytes_any g a (8 * k) h8k X ha
  rw [hkk, ← e8] at B8
  have h0 := Lib.hid (st_zero ha)
  clear ha hb hkk e8
  go_enter Try.func5, Try.ntmps5
  go_wp2_with fail
  refine (awake5 _).mono ?_
  rintro e w1 ⟨rfl, b1⟩
  go_wp2_with fail
  refine (new_any a _).mono ?_
  rintro e w2 ⟨gx, rfl, X2, hx, b2⟩
  have k2 := bstep b1 b2
  go_wp2_with fail
  refine (new_any a _).mono ?_
  rintro e w3 ⟨gy, rfl, Y3, hy, b3⟩
  have k3 := bstep k2 b3
  have X3 := X2.step b3
  have hxy : gx ≠ gy := by have := X2.lt; omega
  have hgx : w.heap.size ≤ gx := by have := b1.size; omega
  have hgy : w.heap.size ≤ gy := by have := k2.size; omega
  clear X2 b1 b2 b3 hx hy k2
  go_wp2_with fail
  refine (B8 _ _ Y3).mono ?_
  rintro e w4 ⟨g, rfl, L4, hg, Y4, b4⟩
  have X4 := X3.grown b4 hxy
  have k4 := k3.trans (grown_below b4 k3.size hgy)
  have hgx2 : g ≠ gx := by have := X3.lt; omega
  have hgy2 : g ≠ gy := by have := Y3.lt; omega
  clear Y3 X3 b4 k3 B8 hg
  have X4' : MAt w4 gx (st a 0) := by rw [h0.out]; exact X4
  have HX := Lib.hid X4'
  have HL := Lib.hid L4
  have HY := Lib.hid Y4
  clear X4 X4' L4 Y4 h0
  go_wp2_with fail
  go_loopw [32] (fun c wr => ∃ i : Nat, i ≤ k ∧ c = .int .i64 i ∧ Hid (Blk wr g 5 (bvs (mixL a (8 * k))).toArray) ∧ Hid (MAt wr gx (st a i)) ∧ Hid (MAt wr gy (st a k)) ∧ Below w.heap.size w wr) (fun c _ => k - (intOf c).toNat)
  case atStart => exact ⟨0, by omega, rfl, HL, HX, HY, k4⟩
  case round =>
    clear HL HX HY k4
    obtain ⟨i, hi, rfl, HL, HX, HY, kb⟩ := hrel
    by_cases hlt : i < k
    · have C8 := fun X => bytes_any gx (st a i) 8 (by omega) X (st_lt _ _)
      rw [show (8 + 7) / 8 = 1 from rfl, st_st] at C8
      have L8 := Lib.hid (mixL_length (st a i) 8)
      have hp := mixL_part a (8 * k) i (by omega)
      have Hp := Lib.hid hp
      have tp : (mixL (st a i) 8 == mixL (st a i) 8) = true := by simp
      clear hp
      generalize mixL (st a i) 8 = part at *
      go_wp2_with fail
      refine (C8 _ HX.out).mono ?_
      rintro e w5 ⟨g5, rfl, B5, hg5, X5, b5⟩
      have hL5 := (HL.out).grown b5 (by simpa using hgx2)
      have hY5 := (HY.out).grown b5 hxy.symm
      have k5 := kb.trans (grown_below b5 kb.size hgx)
      have R5 := Rd.of_blk B5
      rw [L8.out] at R5
      have P5 := Rd.part (lo := 8 * i) (n := 8) hL5 (by rw [lm.out]; omega)
      rw [Hp.out] at P5
      have S := fun c => same_any (c := 8) (c2 := c) R5 P5 B5.lt hL5.lt (by omega)
      rw [tp] at S
      have HX5 := Lib.hid X5
      have HL5 := Lib.hid hL5
      have HY5 := Lib.hid hY5
      clear HL HX HY X5 hL5 hY5 R5 P5 B5 b5 kb C8 hg5
      go_wp2_with fail
      refine (S _).mono ?_
      rintro e w6 ⟨rfl, b6⟩
      have X6 := Lib.hid ((HX5.out).step b6)
      have L6 := Lib.hid ((HL5.out).below b6 (HL5.out).lt)
      have Y6 := Lib.hid ((HY5.out).step b6)
      have k6 := bstep k5 b6
      clear S HX5 HL5 HY5 b6 k5
      go_wp2_with fail
      go_roundw
      case rel => exact ⟨i + 1, by omega, by go_num, L6, X6, Y6, k6⟩
      case measure => simp [intOf]; omega
    · obtain rfl : i = k := by omega
      have NX := fun X => next_any gx (st a i) X
      have NY := fun X => next_any gy (st a i) X
      clear HL
      go_wp2_with fail
      refine (NX _ HX.out).mono ?_
      rintro e w5 ⟨rfl, _, b5⟩
      have Y5 := (HY.out).grown b5 hxy.symm
      have k5 := kb.trans (grown_below b5 kb.size hgx)
      clear HX HY b5 kb NX
      go_wp2_with fail
      refine (NY _ Y5).mono ?_
      rintro e w6 ⟨rfl, _, b6⟩
      have k6 := k5.trans (grown_below b6 k5.size hgy)
      clear Y5 b6 k5 NY
      generalize stir (st (st a i) 1) = q
      go_wp2_with fail
      refine (new_any a _).mono ?_
      rintro e w7 ⟨g7, rfl, X7, h7, b7⟩
      have k7 := bstep k6 b7
      have h7' : w.heap.size ≤ g7 := by have := k6.size; omega
      clear b7 k6 h7
      go_wp2_with fail
      refine (next_any g7 a _ X7).mono ?_
      rintro e w8 ⟨rfl, _, b8⟩
      have k8 := k7.trans (grown_below b8 k7.size h7')
      clear b8 k7 X7
      go_wp2_with fail
      refine (new_any b _).mono ?_
      rintro e w9 ⟨g9, rfl, X9, h9, b9⟩
      have k9 := bstep k8 b9
      have h9' : w.heap.size ≤ g9 := by have := k8.size; omega
      clear b9 k8 h9
      go_wp2_with fail
      refine (next_any g9 b _ X9).mono ?_
      rintro e w10 ⟨rfl, _, b10⟩
      have k10 := k9.trans (grown_below b10 k9.size h9')
      clear b10 k9 X9
      by_cases hab : a = b
      · subst hab
        go_wp2_with fail
        go_ret
        exact ⟨rfl, k10⟩
      · obtain ⟨t1, t2⟩ := next_ne Ha.out Hb.out hab
        clear hab
        go_wp2_with fail
        go_ret
        exact ⟨rfl, k10⟩
theorem apart_walk (a b : Int) (u : UInt8) (w : World) (w1 : (Lit.int .u64 a).wf = true) (w2 : (Lit.int .u64 b).wf = true) :
    Calls Try.prog 5 #[.int .u64 a, .int .u64 b, .int .u8 (bv u)] w fun e w' => e = .returned (.bool true) ∧ Below w.heap.size w w' := by
  have b1 := bounds_u64 w1
  have b2 := bounds_u64 w2
  have e1 : a = uv a.toNat := by unfold uv; omega
  have e2 : b = uv b.toNat := by unfold uv; omega
  have h0 := bv_nn u
  rw [e1, e2]
  exact apart_main a.toNat b.toNat (bv u % 60).toNat u (by omega) (by omega) (by omega) w

/-! ### The frame of 'MixApart' -/
namespace mixApart
theorem own : ownKnob Try.prog.godebug = none := by kernel_rfl
theorem laidOut : laidOutB Try.prog = true := by kernel_rfl
theorem lifted (os : Os) (started : os.Started) (H : Type) (enc : TypeId × Value → H) :
    ReturnsInHanded {} Try.checked os 5 .any (Rows.mixApartSpec.pre6 enc Try.prog Try.f5 Rows.mixApartRow.domain false) (Rows.mixApartSpec.post enc Try.prog Try.f5 false true false false) := by
  refine returnsInHanded_of_change (C := Try.checked) own started (by kernel_rfl) Try.func5
    (ChangeSpec.witness6 (enc := enc) (C := Try.checked) false ⟨#[], #[.int .u64 0, .int .u64 0, .int .u8 0], []⟩ 8 (by kernel_rfl) (by kernel_rfl) (by kernel_rfl) (by kernel_rfl)) ?_
  intro W base args ds gs before hval0 hW hcnd _
  have hval : ∀ (j : Nat) t v, Try.f5.params[j]? = some t → args[j]? = some v → Value.okWide Try.prog W .any base t v := hval0
  have hW' := hW
  obtain ⟨p, q, hA0, hV, rfl, hfz, hnd⟩ := hW
  have hA : DataW.TrodAll enc Try.prog W 0 (fun _ => true) true Try.f5.params.toList args.toList ds p := hA0
  rw [Try.params5] at hA hval
  obtain ⟨v0, vs0, d0, ds0, p0, q0, hargs, rfl, rfl, h0, q0'⟩ := trodAll_cons hA
  obtain ⟨v1, vs1, d1, ds1, p1, q1, rfl, rfl, rfl, h1, q1'⟩ := trodAll_cons q0'
  obtain ⟨v2, vs2, d2, ds2, p2, q2, rfl, rfl, rfl, h2, q2'⟩ := trodAll_cons q1'
  obtain ⟨rfl, rfl, rfl⟩ := trodAll_nil q2'
  obtain rfl : args = #[v0, v1, v2] := by cases args; simp_all
  obtain ⟨rfl, rfl⟩ := trodVars_none hV
  have k0 := h0
  have lt0 : ∀ x ∈ p0, x.block < W.heap.size := by obtain ⟨m, hm⟩ := k0; exact DataW.trod_lt m _ _ _ hm
  have k1 := h1
  have lt1 : ∀ x ∈ p1, x.block < W.heap.size := by obtain ⟨m, hm⟩ := k1; exact DataW.trod_lt m _ _ _ hm
  have k2 := h2
  have lt2 : ∀ x ∈ p2, x.block < W.heap.size := by obtain ⟨m, hm⟩ := k2; exact DataW.trod_lt m _ _ _ hm
  obtain ⟨a0, rfl, rfl, rfl, w0⟩ := open_int Try.underlying22 (hval 0 22 v0 rfl rfl) h0
  obtain ⟨a1, rfl, rfl, rfl, w1⟩ := open_int Try.underlying22 (hval 1 22 v1 rfl rfl) h1
  obtain ⟨a2, rfl, rfl, rfl, w2⟩ := open_int Try.underlying5 (hval 2 5 v2 rfl rfl) h2
  obtain ⟨u2, rfl⟩ := byte_of w2
  clear hA0 hval0
  refine (apart_walk a0 a1 u2 W w0 w1).mono fun e W' ⟨he, bel⟩ => ?_
  subst he
  exact ⟨_, rfl, _, _, _, [], _, [], hW', trodAll_mk1 (shut_bool Try.underlying4 _), (trodAll_cons_mk (Below.trod laidOut (by kernel_rfl) (of_decide_eq_true (by kernel_rfl)) k0 bel lt0) (trodAll_cons_mk (Below.trod laidOut (by kernel_rfl) (of_decide_eq_true (by kernel_rfl)) k1 bel lt1) (trodAll_cons_mk (Below.trod laidOut (by kernel_rfl) (of_decide_eq_true (by kernel_rfl)) k2 bel lt2) trodAll_mk0))), rfl, bel.frame _, fun h => by cases h⟩

theorem over : Rows.mixApartRow.holds Try.pinned (OpenSpec.ofChange Rows.mixApartSpec) :=
  OpenClaim.holds_of_wide 5 Try.f5 rfl rfl rfl rfl rfl rfl rfl ⟨rfl, rfl, rfl, rfl, rfl⟩ rfl rfl rfl rfl rfl (by kernel_rfl) Try.func5 (by kernel_rfl)
    (of_decide_eq_true (by kernel_rfl)) (by unfold Func.isWrapper; first | (rw [if_pos (by decide +kernel)]; kernel_rfl) | (rw [if_neg (by decide +kernel)]; exact ⟨rfl, rfl⟩))
    (fun os started H enc _ => lifted os started H enc)
/-- The statement. -/
theorem proved : Rows.MixApartSaid := over
end mixApart
end Go.Proofs.Ythfbgcjfnpajjaa
