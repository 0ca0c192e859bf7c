import Derived.Test.YtejnkohgecclbaaVecC
/- Proved: for every input VecTells returns true and leaves what it is handed as it was. No condition. -/
namespace Go.Proofs.Ytejnkohgecclbaa
open Go.ChangeShapes Go.WideShapes Go.ChangeAt Go.RowKit
open Go.ChangeMaps (open_string shut_string)
set_option linter.unusedVariables false
set_option maxRecDepth 100000

theorem rd1 {w : World} {g : Nat} {a : UInt8} (h0 : w.cell? ⟨g, 0, none⟩ = some (.int .u8 (bv a))) : Rd w (g + 1) (some ⟨g, 0, none⟩) 1 [a] := by
  refine ⟨rfl, fun _ => ⟨g, 0, rfl, by omega, fun i u hi => ?_⟩⟩
  match i, hi with
  | 0, hi => simp at hi; subst hi; simpa using h0
/-- A row of two slices that were just built. -/
theorem vof_new {w : World} {g : Nat} (hg : w.heap.size = g) (a b c d : UInt8) :
    Calls Try.prog 23 #[.slice (some ⟨g, 0, none⟩) 3 3, .slice (some ⟨g + 1, 0, none⟩) 1 1] ((w.alloc (.cells #[.int .u8 (bv a), .int .u8 (bv b), .int .u8 (bv c)] 5)).alloc (.cells #[.int .u8 (bv d)] 5)) (RowEnds ([a, b, c], [d]) w) := by
  subst hg
  obtain ⟨hb, h1, h2⟩ := two_alloc (w := w) (T := 5) (T2 := 5) (cs := #[.int .u8 (bv a), .int .u8 (bv b), .int .u8 (bv c)]) (cs2 := #[.int .u8 (bv d)])
  have r1 : Rd ((w.alloc (.cells #[.int .u8 (bv a), .int .u8 (bv b), .int .u8 (bv c)] 5)).alloc (.cells #[.int .u8 (bv d)] 5)) (w.heap.size + 1) (some ⟨w.heap.size, 0, none⟩) 3 [a, b, c] := rd3 (by rw [h1.cell]; rfl) (by rw [h1.cell]; rfl) (by rw [h1.cell]; rfl)
  have r2 : Rd ((w.alloc (.cells #[.int .u8 (bv a), .int .u8 (bv b), .int .u8 (bv c)] 5)).alloc (.cells #[.int .u8 (bv d)] 5)) (w.heap.size + 1 + 1) (some ⟨w.heap.size + 1, 0, none⟩) 1 [d] := rd1 (by rw [h2.cell]; rfl)
  exact (vof_any (c := 3) (c2 := 1) (r1.more (by simp)) (r2.more (by simp)) (by omega) (by omega)).mono fun e w' ⟨x, he, hx, hb'⟩ => ⟨x, he, hx, hb.trans (hb'.mono (by simp; omega))⟩
theorem awake3 (w : World) : Calls Try.prog 6 #[] w fun e w' => e = .returned (.bool true) ∧ Below w.heap.size w w' := by
  have k1 : normR ([0, 2, 4], [6]) = ([0, 1, 2], [3]) := by decide +kernel
  have k2 : sameR ([0, 1, 2], [3]) ([0, 1, 2], [3]) = true := by decide +kernel
  have C1 := vof_new (w := w) rfl 0 2 4 6
  have C2 := fun w => vof_new (w := w) rfl 0 1 2 3
  go_enter Try.func6, Try.ntmps6
  go_wp2_with fail
  refine C1.mono ?_
  rintro e w1 ⟨x, rfl, ⟨A1, n1, c1, A2, n2, c2, rfl, r1, r2, l1, l2⟩, b1⟩
  go_wp2_with fail
  refine (norm_any (r := ([0, 2, 4], [6])) r1 r2 l1 l2).mono ?_
  rintro e w2 ⟨x, rfl, ⟨A3, n3, c3, A4, n4, c4, rfl, r3, r4, l3, l4⟩, b2⟩
  rw [k1] at r3 r4
  have b12 := bstep b1 b2
  clear C1 b1 b2 r1 r2 k1
  go_wp2_with fail
  refine (C2 _).mono ?_
  rintro e w3 ⟨x, rfl, ⟨A5, n5, c5, A6, n6, c6, rfl, r5, r6, l5, l6⟩, b3⟩
  replace r3 := r3.step b3
  replace r4 := r4.step b3
  replace b12 := bstep b12 b3
  clear b3
  go_wp2_with fail
  refine (vsame_any (r := ([0, 1, 2], [3])) (s := ([0, 1, 2], [3])) r3 r4 r5 r6).mono ?_
  rw [k2]
  rintro e w4 ⟨rfl, b4⟩
  go_wp2_with fail
  go_ret
  exact ⟨rfl, bstep b12 b4⟩

theorem unitL_get {n i k : Nat} (h : k < n) : (unitL n i)[k]? = some (if k = i then 1 else 0) := by
  unfold unitL nulls
  rw [List.getElem?_set]
  by_cases e : i = k
  · subst e; simp [h]
  · have e2 : ¬ k = i := fun h => e h.symm
    simp [e, e2, h]
theorem lead_unit {n i : Nat} (h : i < n) : leadI (unitL n i) = (i : Int) := by
  refine lead_at ?_ (by rw [unitL_length]; exact h) (by rw [unitL_get h]; simp)
  unfold prefixZero zeroB
  rw [List.all_eq_true]
  intro x hx
  rw [List.mem_take_iff_getElem] at hx
  obtain ⟨j, hj, rfl⟩ := hx
  have hj2 : j < n := by rw [unitL_length] at hj; omega
  have := unitL_get (i := i) hj2
  rw [List.getElem?_eq_getElem (by rw [unitL_length]; exact hj2)] at this
  injection this with this
  rw [this, if_neg (by omega)]
  rfl

/-! ### VecTells -/
theorem tells3_skip (A : Option Addr) (len c : Nat) (n i : Int) (w : World) (h : 100 < len ∨ (1000 < n ∧ n ≤ 65536)) (l : len ≤ 9223372036854775807) :
    Calls Try.prog 3 #[.slice A len c, .int .i64 n, .int .i64 i] w fun e w' => e = .returned (.bool true) ∧ Below w.heap.size w w' := by
  by_cases h1 : 100 < len
  · clear h
    go_enter Try.func3, Try.ntmps3
    go_wp2_with fail
    refine (awake3 _).mono ?_
    rintro e w1 ⟨rfl, hb⟩
    go_wp2_with fail
    go_ret
    exact ⟨rfl, hb⟩
  · obtain ⟨h2, h3⟩ : 1000 < n ∧ n ≤ 65536 := by omega
    clear h
    go_enter Try.func3, Try.ntmps3
    go_wp2_with fail
    refine (awake3 _).mono ?_
    rintro e w1 ⟨rfl, hb⟩
    go_wp2_with fail
    go_ret
    exact ⟨rfl, hb⟩
set_option maxHeartbeats 4000000 in
theorem tells3_main (A : Option Addr) (len c : Nat) (us : List UInt8) (n i : Int) (w : World) (r : Rd w w.heap.size A len us) (h1 : len ≤ 100) (h2 : ¬ (1000 < n ∧ n ≤ 65536)) (b1 : -9223372036854775808 ≤ n) (b2 : n ≤ 9223372036854775807) (b3 : -9223372036854775808 ≤ i) (b4 : i ≤ 9223372036854775807) :
    Calls Try.prog 3 #[.slice A len c, .int .i64 n, .int .i64 i] w fun e w' => e = .returned (.bool true) ∧ Below w.heap.size w w' := by
  have Hl := Lib.hid r.1
  have Hz := Lib.hid (lead_zero us)
  have hc : (0 ≤ i ∧ i < n ∧ n ≤ 1000) ∨ n < 0 ∨ (0 ≤ n ∧ n ≤ 1000 ∧ i < 0) ∨ (0 ≤ n ∧ n ≤ 1000 ∧ 0 ≤ i ∧ n ≤ i) ∨ 65536 < n := by omega
  have LB := lead_bounds us
  have CL := fun w1 B q => lead_any (w := w1) (c := c) (q : Rd w1 B A len us) (by omega)
  have CR := fun w1 B q => reflead_any (w := w1) (c := c) (q : Rd w1 B A len us) (by omega)
  have CZ := fun w1 B q => vzero_any (w := w1) (c := c) (q : Rd w1 B A len us) (by omega)
  rw [Hz.out] at CZ
  have L1 : -1 ≤ leadI us := by omega
  have L2 : leadI us ≤ 100 := by have := r.1; omega
  generalize leadI us = L at CL CR CZ L1 L2
  have hL : L < 0 ∨ 0 ≤ L := by omega
  clear h2 LB Hz
  rcases hc with ⟨g1, g2, g3⟩ | g1 | ⟨g1, g2, g3⟩ | ⟨g1, g2, g3, g4⟩ | g1
  all_goals
    go_enter Try.func3, Try.ntmps3
    go_wp2_with fail
    refine (awake3 _).mono ?_
    rintro e w1 ⟨rfl, hb⟩
    replace r := r.step hb
    go_wp2_with fail
    refine (CL _ _ r).mono ?_
    rintro e w' ⟨rfl, rfl⟩
    go_wp2_with fail
    refine (CR _ _ r).mono ?_
    rintro e w' ⟨rfl, rfl⟩
    go_wp2_with fail
    refine (CZ _ _ r).mono ?_
    rintro e w' ⟨rfl, rfl⟩
    go_wp2_with fail
    refine (CR _ _ r).mono ?_
    rintro e w' ⟨rfl, rfl⟩
    go_wp2_with fail
    go_loop [8] (fun k => ∃ j : Int, -1 ≤ j ∧ j ≤ len + 1 ∧ k = .int .i64 j) (fun k => ((len : Int) + 1 - intOf k).toNat)
    case atStart => exact ⟨-1, by omega, by omega, rfl⟩
    case round =>
      obtain ⟨j, j1, j2, rfl⟩ := hrel
      by_cases e1 : j < 0
      · go_wp2_with fail
        refine (at_out (c := c) (by omega) j (.inl e1) (by omega) (by omega)).mono ?_
        rintro e w' ⟨rfl, rfl⟩
        go_wp2_with fail
        go_round
        case rel => exact ⟨j + 1, by omega, by omega, rfl⟩
        case measure => simp [intOf]; omega
      · by_cases e2 : j < len
        · obtain ⟨k, rfl⟩ : ∃ k : Nat, j = (k : Int) := ⟨j.toNat, by omega⟩
          have hk : k < len := by omega
          obtain ⟨b, off, rfl, _, hcell⟩ := r.at_ hk
          go_wp2_with fail
          refine (at_in (c := c) r (by omega) k hk).mono ?_
          rintro e w' ⟨rfl, rfl⟩
          go_wp2_with fail
          go_round
          case rel => exact ⟨(k : Int) + 1, by omega, by omega, rfl⟩
          case measure => simp [intOf]; omega
        · by_cases e3 : j ≤ len
          · go_wp2_with fail
            refine (at_out (c := c) (by omega) j (.inr (by omega)) (by omega) (by omega)).mono ?_
            rintro e w' ⟨rfl, rfl⟩
            go_wp2_with fail
            go_round
            case rel => exact ⟨j + 1, by omega, by omega, rfl⟩
            case measure => simp [intOf]; omega
          · go_wp2_with fail
            first
            | (refine (unit_bad n i _ b1 b2 b3 b4 (by omega)).mono ?_
               rintro e w' ⟨rfl, rfl⟩
               go_wp2_with fail
               go_ret
               exact ⟨rfl, hb⟩)
            | (obtain ⟨n', rfl⟩ : ∃ n' : Nat, n = (n' : Int) := ⟨n.toNat, by omega⟩
               obtain ⟨i', rfl⟩ : ∃ i' : Nat, i = (i' : Int) := ⟨i.toNat, by omega⟩
               refine (unit_ok n' i' _ (by omega) (by omega)).mono ?_
               rintro e w2 ⟨g, rfl, hg, hb2⟩
               replace hb := bstep hb hb2
               have n1 : n' ≤ 1000 := by omega
               have i1 : i' < n' := by omega
               clear hb2 CL CR CZ r j1 j2 e1 e2 e3 hL L1 L2 b1 b2 b3 b4
               go_wp2_with fail
               go_loop [94] (fun k => ∃ m : Nat, m ≤ n' ∧ k = .int .i64 m) (fun k => n' - (intOf k).toNat)
               case atStart => exact ⟨0, by omega, rfl⟩
               case round =>
                 obtain ⟨m, hm, rfl⟩ := hrel
                 by_cases hlt : m < n'
                 · have hcm := (hg.cell m).trans (by simpa using bvs_get _ _ _ (unitL_get hlt))
                   by_cases he : m = i'
                   · subst he
                     rw [if_pos rfl] at hcm
                     have t : (bv 1 != 0) = true := by decide
                     have t2 : bv 1 = 1 := by decide
                     rw [t2] at hcm
                     clear t t2
                     go_wp2_with fail
                     go_round
                     case rel => exact ⟨m + 1, by omega, by go_num⟩
                     case measure => simp [intOf]; omega
                   · rw [if_neg he] at hcm
                     have t2 : bv 0 = 0 := by decide
                     rw [t2] at hcm
                     have t3 : ((m : Int) == (i' : Int)) = false := by simp; omega
                     clear t2 he
                     go_wp2_with fail
                     go_round
                     case rel => exact ⟨m + 1, by omega, by go_num⟩
                     case measure => simp [intOf]; omega
                 · obtain rfl : m = n' := by omega
                   have ru := (Rd.of_blk hg).more (B' := w2.heap.size) hg.lt
                   rw [unitL_length] at ru
                   have C := lead_any (c := m) ru (by omega)
                   rw [lead_unit i1] at C
                   go_wp2_with fail
                   refine C.mono ?_
                   rintro e w' ⟨rfl, rfl⟩
                   go_wp2_with fail
                   go_ret
                   exact ⟨rfl, hb⟩)
theorem tells3_walk (A : Option Addr) (len c : Nat) (us : List UInt8) (n i : Int) (w : World) (r : Rd w w.heap.size A len us) (l : len ≤ c ∧ c ≤ maxLen) (w1 : (Lit.int .i64 n).wf = true) (w2 : (Lit.int .i64 i).wf = true) :
    Calls Try.prog 3 #[.slice A len c, .int .i64 n, .int .i64 i] w fun e w' => e = .returned (.bool true) ∧ Below w.heap.size w w' := by
  have h1 := bounds_i64 w1
  have h2 := bounds_i64 w2
  by_cases h : 100 < len ∨ (1000 < n ∧ n ≤ 65536)
  · exact tells3_skip A len c n i w h (by unfold maxLen at l; omega)
  · exact tells3_main A len c us n i w r (by omega) (by omega) h1.1 h1.2 h2.1 h2.2

/-! ### The frame of 'VecTells' -/
namespace vecTells
theorem own : ownKnob Try.prog.godebug = none := by kernel_rfl
theorem laidOut : laidOutB Try.prog = true := by kernel_rfl
theorem lifted (os : Os) (started : os.Started) (H : Type) (enc : TypeId × Value → H) :
    ReturnsInHanded {} Try.checked os 3 .any (Rows.vecTellsSpec.pre6 enc Try.prog Try.f3 Rows.vecTellsRow.domain false) (Rows.vecTellsSpec.post enc Try.prog Try.f3 false true false false) := by
  refine returnsInHanded_of_change (C := Try.checked) own started (by kernel_rfl) Try.func3
    (ChangeSpec.witness6 (enc := enc) (C := Try.checked) false ⟨#[], #[.slice none 0 0, .int .i64 0, .int .i64 0], []⟩ 8 (by kernel_rfl) (by kernel_rfl) (by kernel_rfl) (by kernel_rfl)) ?_
  intro W base args ds gs before hval0 hW hcnd _
  have hval : ∀ (j : Nat) t v, Try.f3.params[j]? = some t → args[j]? = some v → Value.okWide Try.prog W .any base t v := hval0
  have hW' := hW
  obtain ⟨p, q, hA0, hV, rfl, hfz, hnd⟩ := hW
  have hA : DataW.TrodAll enc Try.prog W 0 (fun _ => true) true Try.f3.params.toList args.toList ds p := hA0
  rw [Try.params3] at hA hval
  obtain ⟨v0, vs0, d0, ds0, p0, q0, hargs, rfl, rfl, h0, q0'⟩ := trodAll_cons hA
  obtain ⟨v1, vs1, d1, ds1, p1, q1, rfl, rfl, rfl, h1, q1'⟩ := trodAll_cons q0'
  obtain ⟨v2, vs2, d2, ds2, p2, q2, rfl, rfl, rfl, h2, q2'⟩ := trodAll_cons q1'
  obtain ⟨rfl, rfl, rfl⟩ := trodAll_nil q2'
  obtain rfl : args = #[v0, v1, v2] := by cases args; simp_all
  obtain ⟨rfl, rfl⟩ := trodVars_none hV
  have k0 := h0
  have lt0 : ∀ x ∈ p0, x.block < W.heap.size := by obtain ⟨m, hm⟩ := k0; exact DataW.trod_lt m _ _ _ hm
  have k1 := h1
  have lt1 : ∀ x ∈ p1, x.block < W.heap.size := by obtain ⟨m, hm⟩ := k1; exact DataW.trod_lt m _ _ _ hm
  have k2 := h2
  have lt2 : ∀ x ∈ p2, x.block < W.heap.size := by obtain ⟨m, hm⟩ := k2; exact DataW.trod_lt m _ _ _ hm
  obtain ⟨A0, n0, c0, rfl⟩ := okWide_slice Try.underlying22 (hval 0 22 v0 rfl rfl)
  obtain ⟨us0, r0, l0⟩ := bytes_arg Try.underlying22 Try.underlying5 (by kernel_rfl) h0
  obtain ⟨a1, rfl, rfl, rfl, w1⟩ := open_int Try.underlying3 (hval 1 3 v1 rfl rfl) h1
  obtain ⟨a2, rfl, rfl, rfl, w2⟩ := open_int Try.underlying3 (hval 2 3 v2 rfl rfl) h2
  clear hA0 hval0
  refine (tells3_walk A0 n0 c0 us0 a1 a2 W r0 l0 w1 w2).mono fun e W' ⟨he, bel⟩ => ?_
  subst he
  exact ⟨_, rfl, _, _, _, [], _, [], hW', trodAll_mk1 (shut_bool Try.underlying4 _), (trodAll_cons_mk (Below.trod laidOut (by kernel_rfl) (of_decide_eq_true (by kernel_rfl)) k0 bel lt0) (trodAll_cons_mk (Below.trod laidOut (by kernel_rfl) (of_decide_eq_true (by kernel_rfl)) k1 bel lt1) (trodAll_cons_mk (Below.trod laidOut (by kernel_rfl) (of_decide_eq_true (by kernel_rfl)) k2 bel lt2) trodAll_mk0))), rfl, bel.frame _, fun h => by cases h⟩

theorem over : Rows.vecTellsRow.holds Try.pinned (OpenSpec.ofChange Rows.vecTellsSpec) :=
  OpenClaim.holds_of_wide 3 Try.f3 rfl rfl rfl rfl rfl rfl rfl ⟨rfl, rfl, rfl, rfl, rfl⟩ rfl rfl rfl rfl rfl (by kernel_rfl) Try.func3 (by kernel_rfl)
    (of_decide_eq_true (by kernel_rfl)) (by unfold Func.isWrapper; first | (rw [if_pos (by decide +kernel)]; kernel_rfl) | (rw [if_neg (by decide +kernel)]; exact ⟨rfl, rfl⟩))
    (fun os started H enc _ => lifted os started H enc)
/-- The statement. -/
theorem proved : Rows.VecTellsSaid := over
end vecTells
end Go.Proofs.Ytejnkohgecclbaa
