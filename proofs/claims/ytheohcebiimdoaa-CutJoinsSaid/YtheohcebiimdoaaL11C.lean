import Derived.Test.YtheohcebiimdoaaL11A
import Derived.BigQuiet
import Derived.Deep.QuietTactic
/- CutJoins: its walk. -/
namespace Go.Proofs.Ytheohcebiimdoaa
open Go.RowKit
set_option linter.unusedVariables false
set_option maxRecDepth 100000

theorem cut_first (m : Nat) (us : List UInt8) (h : us.length ≤ m) : (cutTo m us).take us.length = us := by
  unfold cutTo
  rw [List.take_of_length_le h, List.take_left]
theorem cut_last (m : Nat) (us : List UInt8) (h : us.length ≤ m) : (cutTo m us).drop us.length = nulls (m - us.length) := by
  unfold cutTo
  rw [List.take_of_length_le h, List.drop_left]
theorem zero_nulls (n : Nat) : zeroB (nulls n) = true := by simp [zeroB, nulls]
theorem cj_long {s at' d : Int} {A : Option Addr} {n c : Nat} {w : World} (h : 2000 < n) :
    Calls Try.prog 4 #[.slice A n c, .int .i64 s, .int .i64 at', .int .u32 d] w (GridEnds (.bool true) w) := by
  go_enter Try.func4, Try.ntmps4
  go_wp2_with fail
  refine (awake11 _).mono ?_
  rintro e w1 ⟨rfl, b1⟩
  go_wp2_with fail
  go_ret
  exact ⟨rfl, b1⟩
theorem cj_wide {s at' d : Int} {A : Option Addr} {n c : Nat} {w : World} (h : n ≤ 2000) (h2 : 2000 < s) :
    Calls Try.prog 4 #[.slice A n c, .int .i64 s, .int .i64 at', .int .u32 d] w (GridEnds (.bool true) w) := by
  go_enter Try.func4, Try.ntmps4
  go_wp2_with fail
  refine (awake11 _).mono ?_
  rintro e w1 ⟨rfl, b1⟩
  go_wp2_with fail
  go_ret
  exact ⟨rfl, b1⟩
theorem of_bad {n : Nat} {s : Int} (h2 : s ≤ 2000) (hf : boundsC n s ≠ 0) : s < 1 ∨ 1 ≤ s ∧ 4096 * s < n := by
  by_cases h : s < 1
  · exact .inl h
  · have h4 : 4096 < needsN n s := by
      refine Int.not_le.1 fun h5 => hf ?_
      unfold boundsC
      rw [if_neg (by omega), if_neg (by omega), if_neg (by omega)]
    have hn : (1 : Int) ≤ n := by
      refine Int.not_lt.1 fun h5 => ?_
      rw [needs_small (by omega)] at h4
      omega
    have h5 := needs_tight (l := n) (s := s) (by omega) hn
    have h6 : 4096 * s ≤ (needsN n s - 1) * s := Int.mul_le_mul_of_nonneg_right (by omega) (by omega)
    exact .inr ⟨by omega, by omega⟩
set_option maxHeartbeats 400000 in
theorem cj_bad {s at' d : Int} {A : Option Addr} {n c : Nat} {w : World} (h : n ≤ 2000) (h2 : s ≤ 2000) (hs : -9223372036854775808 ≤ s) (hf : boundsC n s ≠ 0) :
    Calls Try.prog 4 #[.slice A n c, .int .i64 s, .int .i64 at', .int .u32 d] w (GridEnds (.bool true) w) := by
  have C := Lib.hid fun w => pof_bad (l := (n : Int)) (s := s) (d := d) (w := w) (by omega) hf
  have t := ne_code hf
  have hb := of_bad h2 hf
  unfold pv at C
  have hn : (n : Int) ≤ 2000 := by omega
  clear hf
  generalize boundsC n s = m at *
  rcases hb with hb | ⟨hb, hb2⟩
  · go_enter Try.func4, Try.ntmps4
    go_wp2_with fail
    refine (awake11 _).mono ?_
    rintro e w1 ⟨rfl, b1⟩
    go_wp2_with fail
    refine (C.out _).mono ?_
    rintro e w2 ⟨rfl, b2⟩
    have b3 := bstep (bstep b1 b2) (balloc w2 (.cells #[.int .i64 0, .int .i64 0, .int .i64 0, .int .u32 0] 24))
    clear b1 b2 C
    go_wp2_with fail
    go_ret
    exact ⟨rfl, b3⟩
  · exfalso; omega
theorem part_next {S K k : Nat} (us : List UInt8) (h : k < K) : cutTo (k * S) us ++ ((symsL S K us)[k]?.getD []) = cutTo ((k + 1) * S) us := by
  rw [symsL_get us h, Option.getD_some, Nat.succ_mul, cutTo_add]
  rfl
theorem plan_ok {n S : Nat} {K : Int} (h : codeC n S K = 0) : ∃ k : Nat, K = k ∧ 1 ≤ S ∧ S ≤ 65535 ∧ 1 ≤ k ∧ k ≤ 4096 ∧ n ≤ k * S := by
  obtain ⟨L', S', K', e1, e2, e3, p1, p2, p3, p4, p5, p6, p7⟩ := plan_nat h
  have e1' : n = L' := by omega
  have e2' : S = S' := by omega
  subst e1' e2'
  exact ⟨K', e3, p1, p2, p3, p4, p5⟩
/-- What all tests come to, at the last one. -/
theorem spread_at {n S K j : Nat} (hS : 1 ≤ S) (hj : j < n) (hn : n ≤ K * S) : j / S < K ∧ j % S < S ∧ j / S * S + j % S = j := by
  refine ⟨?_, Nat.mod_lt _ (by omega), ?_⟩
  · rw [Nat.div_lt_iff_lt_mul (by omega)]; omega
  · rw [Nat.mul_comm]; exact Nat.div_add_mod _ _
theorem syms_cell {S K j : Nat} {us : List UInt8} (hS : 1 ≤ S) (hq : j / S < K) : ((symsL S K us)[j / S]?.getD [])[j % S]?.getD 0 = us[j]?.getD 0 := by
  rw [symsL_get us hq, Option.getD_some]
  unfold symL
  rw [cutTo_get, if_pos (Nat.mod_lt _ (by omega)), List.getElem?_drop, Nat.mul_comm, Nat.div_add_mod]
  rfl
set_option maxHeartbeats 2000000 in
theorem cj_ok {at' d : Int} {A : Option Addr} {n c S K : Nat} {us : List UInt8} {w : World} (r : Rd w w.heap.size A n us) (hc : n ≤ c) (hcc : c ≤ 9223372036854775807) (h : n ≤ 2000) (h2 : S ≤ 2000) (hf : boundsC n S = 0) (hK : needsN n S = K) :
    Calls Try.prog 4 #[.slice A n c, .int .i64 (S : Int), .int .i64 at', .int .u32 d] w (GridEnds (.bool true) w) := by
  have C := Lib.hid fun w => pof_ok (l := (n : Int)) (s := (S : Int)) (d := d) (w := w) (by omega) hf
  have hcode := code_fit hf
  rw [hK] at C hcode
  obtain ⟨k', ek, p1, p2, p3, p4, p5⟩ := plan_ok hcode
  obtain rfl : K = k' := by omega
  have hfit : fitC n S K n = 0 := by simp [fitC, hcode]
  have CC := Lib.hid fun (V : World) (hV : Below w.heap.size w V) => ccut_ok (d := d) (r.step hV) hc hcc hfit
  have hroom : roomC n S K = ((K * S : Nat) : Int) := by simp [roomC, hcode]
  have CR := Lib.hid fun V => proom_any (l := (n : Int)) (s := (S : Int)) (k := (K : Int)) (d := d) (w := V) (by omega)
  rw [hroom] at CR
  have Hcode := Lib.hid hcode
  have HL := Lib.hid (symsL_len S K us)
  have HU := Lib.hid r.1
  unfold pv at C CC CR
  have h' : (n : Int) ≤ 2000 := by omega
  have h2' : (S : Int) ≤ 2000 := by omega
  have Hm := Lib.hid (room_mul p2 p4)
  clear hf hK hcode ek hfit hroom
  go_enter Try.func4, Try.ntmps4
  go_wp2_with fail
  refine (awake11 _).mono ?_
  rintro e w1 ⟨rfl, b1⟩
  go_wp2_with fail
  refine (C.out _).mono ?_
  rintro e w2 ⟨rfl, b2⟩
  have hb := bstep (bstep b1 b2) (balloc w2 (.cells #[.int .i64 n, .int .i64 S, .int .i64 K, .int .u32 d] 24))
  have hg := Blk.new w2 24 #[.int .i64 n, .int .i64 S, .int .i64 K, .int .u32 d]
  have hge : w.heap.size ≤ w2.heap.size := (bstep b1 b2).size
  clear b1 b2 C
  obtain ⟨a0, a1, a2, a3, _⟩ := cells4 hg
  go_wp2_with fail
  refine (CC.out _ hb).mono ?_
  rintro e w3 ⟨g, rfl, hF, _, _, b2⟩
  replace hg := hg.below b2 hg.lt
  replace hb := bstep hb b2
  have hR := hF.rds HL.out
  have HRr := Lib.hid fun W (hW : Below w3.heap.size w3 W) => hR.step hW
  have hzz : w2.heap.size < w3.heap.size := hg.lt
  clear a0 a1 a2 a3 b2 hF CC hR
  go_wp2_with fail
  go_loopw [13, 55] (fun v i wr => ∃ (all : Value) (k : Nat), k ≤ K ∧ all = v ∧ i = .int .i64 k ∧ Hid (wr.ownsRow w3.heap.size 5 1 all (k * S) (bvs (cutTo (k * S) us))) ∧ Below w3.heap.size w3 wr) (fun _ i _ => K - (intOf i).toNat)
  case atStart => exact ⟨_, 0, by omega, rfl, rfl, Lib.hid (by simpa [cutTo, nulls, bvs] using World.ownsRow_nil w3 w3.heap.size _ _), Below.refl _ _⟩
  case round =>
    obtain ⟨all, k, hk, rfl, rfl, Hown, hbr⟩ := hrel
    by_cases hlt : k < K
    · obtain ⟨b, o, Ak, ck, e4, hbB, hcell, hrk⟩ := (HRr.out wr hbr).at_ hlt
      injection e4 with e4
      injection e4 with e4 e5
      subst e4 e5
      have hlen : ((symsL S K us)[k]?.getD []).length = S := by rw [symsL_get us hlt]; exact symL_len S us k
      have HN := Lib.hid (part_next (S := S) us hlt)
      rw [hlen] at hcell hrk
      generalize (symsL S K us)[k]?.getD [] = y at *
      have t : ((S : Int) != (S : Int)) = false := by simp
      have hkS : k * S + S = (k + 1) * S := by rw [Nat.succ_mul]
      have hbnd : (k + 1) * S ≤ 140737488355328 := by
        have := Nat.mul_le_mul_right S (show k + 1 ≤ K from hlt)
        have := Hm.out
        omega
      have hzr := hbr.size
      clear hlen
      rw [Nat.zero_add] at hcell
      have Hks := Lib.hid hkS
      have hbnd2 : k * S + S ≤ 140737488355328 := by omega
      clear hkS hbnd
      go_wp2_with (at_builtin; refine push_bytes rfl (.tmp 63) (.tmp 64) rfl w3.heap.size _ (k * S) (cutTo (k * S) us) rfl Hown.out Ak S ck y rfl hrk hbnd2 hzr ?_)
      intro v4 w4 ho4 hg4
      rw [HN.out, Hks.out] at ho4
      have hb5 := own_grown_below Hown.out hg4 hzr
      have hb6 := hbr.trans hb5
      have Ho := Lib.hid ho4
      clear ho4 hg4 hb5 hrk hcell
      go_wp2_with fail
      go_roundw
      case rel => exact ⟨_, k + 1, by omega, rfl, by go_num, Ho, hb6⟩
      case measure => simp [intOf]; omega
    · obtain rfl : k = K := by omega
      obtain ⟨A5, c5, rfl, hr5⟩ := Rd.of_own Hown.out
      have hcap5 : k * S ≤ c5 ∧ c5 ≤ 9223372036854775807 := by
        rcases Hown.out.2 with ⟨e, _⟩ | ⟨g', cap, cur, e, _, _, hn, hm, _⟩
        · injection e with _ e1 e2; omega
        · injection e with _ e1 e2; unfold maxLen at hm; omega
      have hM1 : 1 ≤ k * S := Nat.mul_pos p3 p1
      have hM2 := Hm.out
      have Hf1 : Hid ((cutTo (k * S) us).take n = us) := Lib.hid (by have := cut_first (k * S) us (by rw [HU.out]; exact p5); rwa [HU.out] at this)
      have Hf2 : Hid (zeroB ((cutTo (k * S) us).drop n) = true) := Lib.hid (by have := cut_last (k * S) us (by rw [HU.out]; exact p5); rw [HU.out] at this; rw [this]; exact zero_nulls _)
      have Hsp := Lib.hid fun j (hj : j < n) => spread_at (K := k) p1 hj p5
      replace hg := hg.below hbr hg.lt
      have hb4 := bstep hb hbr
      have HRr2 := Lib.hid fun W (hW : Below wr.heap.size wr W) => HRr.out W (bstep hbr hW)
      have hro := r.step hb4
      obtain ⟨b5, o5, rfl, hbl5, _⟩ := hr5.at_ (show 0 < k * S by omega)
      have hz5 : (k * S : Int) = ((k * S : Nat) : Int) := by simp
      generalize hMM : k * S = M at *
      obtain ⟨hcap1, hcap2⟩ := hcap5
      have hq1 := hr5.part_first (m := n) p5
      rw [Hf1.out] at hq1
      clear hzz hge hb hbr Hown hlt Hm HRr hMM hz5
      clear hcap2
      obtain ⟨a0, a1, a2, a3, _⟩ := cells4 hg
      have t1 : ((M : Int) != (M : Int)) = false := by simp
      have hnc : n ≤ c5 := by omega
      generalize cutTo M us = al at *
      go_wp2_with fail
      refine (CR.out _).mono ?_
      rintro e w5 ⟨rfl, b2⟩
      replace hg := hg.below b2 hg.lt
      replace hb4 := bstep hb4 b2
      replace hq1 := hq1.step b2
      replace hr5 := hr5.step b2
      replace hro := hro.step b2
      have HR3 := Lib.hid fun W (hW : Below w5.heap.size w5 W) => HRr2.out W (bstep b2 hW)
      clear b2 a0 a1 a2 a3 HRr2 CR
      go_wp2_with fail
      refine (same_any hq1 hro (Nat.le_refl _) (Nat.le_refl _) (by omega)).mono ?_
      rintro e w6 ⟨rfl, b2⟩
      rw [beq_self_eq_true]
      replace hg := hg.below b2 hg.lt
      replace hb4 := bstep hb4 b2
      replace hr5 := hr5.step b2
      replace hro := hro.step b2
      have HR4 := Lib.hid fun W (hW : Below w6.heap.size w6 W) => HR3.out W (bstep b2 hW)
      clear b2 hq1 HR3
      by_cases hcn : c5 = n
      · have hMn : n = M := by omega
        have hcn2 := hcn.symm
        clear hcn
        subst hcn2
        subst hMn
        have hd0 := Rd.part_none (w := w6) (B := 0) (A := some ⟨b5, o5, none⟩) (us := al) (m := n) (by rw [hr5.1]; exact Nat.le_refl _)
        go_wp2_with fail
        refine (refzero_any (B := 0) (n := 0) (by simpa using hd0) (by omega)).mono ?_
        rintro e w7 ⟨rfl, rfl⟩
        rw [Hf2.out]
        obtain ⟨a0, a1, a2, a3, _⟩ := cells4 hg
        clear hr5
        by_cases hat : at' < 0 ∨ (n : Int) ≤ at'
        · have CS := cspread_out (k := (k : Int)) (d := d) (w := w6) (by omega) Hcode.out hat
          unfold pv at CS
          by_cases h0 : at' < 0
          · clear hat
            go_wp2_with fail
            refine CS.mono ?_
            rintro e w8 ⟨rfl, b8⟩
            go_wp2_with fail
            go_ret
            exact ⟨rfl, bstep hb4 b8⟩
          · have h3 : 0 ≤ at' := by omega
            have h4 : (n : Int) ≤ at' := by omega
            clear hat h0
            go_wp2_with fail
            refine CS.mono ?_
            rintro e w8 ⟨rfl, b8⟩
            go_wp2_with fail
            go_ret
            exact ⟨rfl, bstep hb4 b8⟩
        · obtain ⟨j, rfl⟩ : ∃ j : Nat, at' = (j : Int) := ⟨at'.toNat, by omega⟩
          have hj : j < n := by omega
          have hjz : (j : Int) < (n : Int) := by omega
          have CS := cspread_ok (K := k) (d := d) (w := w6) Hcode.out (by omega) hj p1
          unfold pv at CS
          obtain ⟨s1, s2, s3⟩ := Hsp.out j hj
          have Hcell := Lib.hid (syms_cell (us := us) p1 s1)
          have Hrl : Hid (((symsL S k us)[j / S]?.getD []).length = S) := Lib.hid (by rw [symsL_get us s1]; exact symL_len _ _ _)
          clear hat
          generalize j / S = q at *
          generalize j % S = r' at *
          go_wp2_with fail
          refine CS.mono ?_
          rintro e w8 ⟨rfl, b8⟩
          obtain ⟨bq, oq, Aq, cq, eq, hbq, hcq, hrq⟩ := (HR4.out w8 b8).at_ s1
          injection eq with eq
          injection eq with eq eq2
          subst eq eq2
          rw [Hrl.out] at hcq hrq
          rw [Nat.zero_add] at hcq
          obtain ⟨br, or', rfl, hbr, hcr⟩ := hrq.at_ s2
          rw [Hcell.out] at hcr
          obtain ⟨bo, oo, rfl, hbo, hco⟩ := (hro.step b8).at_ hj
          generalize us[j]?.getD 0 = u at *
          replace hb4 := bstep hb4 b8
          have s1z : (q : Int) < (k : Int) := by omega
          have s2z : (r' : Int) < (S : Int) := by omega
          have hm1 : q * S ≤ 2000 := by omega
          have hw1 : IntKind.i64.wrap ((q : Int) * (S : Int)) = ((q * S : Nat) : Int) := by rw [← Int.natCast_mul]; exact IntWalk.i64_in _ ⟨by omega, by omega⟩
          have hw3 : ((q : Int) * (S : Int) + (r' : Int) == (j : Int)) = true := by rw [beq_iff_eq, ← Int.natCast_mul]; omega
          have hw2 : IntKind.i64.wrap (((q * S : Nat) : Int) + (r' : Int)) = (j : Int) := by rw [show (((q * S : Nat) : Int) + (r' : Int)) = (j : Int) by omega]; exact IntWalk.i64_in _ ⟨by omega, by omega⟩
          clear b8 hrq hro HR4 a0 a1 a2 a3 CS Hsp s3
          go_wp2_with fail
          go_quiet (fail)
          go_wp2_with fail
          go_ret
          exact ⟨rfl, below_drewN hb4 _⟩
      · have hd0 := hr5.part_last (m := n) p5
        go_wp2_with fail
        refine (refzero_any hd0 (by omega)).mono ?_
        rintro e w7 ⟨rfl, rfl⟩
        rw [Hf2.out]
        obtain ⟨a0, a1, a2, a3, _⟩ := cells4 hg
        clear hr5
        by_cases hat : at' < 0 ∨ (n : Int) ≤ at'
        · have CS := cspread_out (k := (k : Int)) (d := d) (w := w6) (by omega) Hcode.out hat
          unfold pv at CS
          by_cases h0 : at' < 0
          · clear hat
            go_wp2_with fail
            refine CS.mono ?_
            rintro e w8 ⟨rfl, b8⟩
            go_wp2_with fail
            go_ret
            exact ⟨rfl, bstep hb4 b8⟩
          · have h3 : 0 ≤ at' := by omega
            have h4 : (n : Int) ≤ at' := by omega
            clear hat h0
            go_wp2_with fail
            refine CS.mono ?_
            rintro e w8 ⟨rfl, b8⟩
            go_wp2_with fail
            go_ret
            exact ⟨rfl, bstep hb4 b8⟩
        · obtain ⟨j, rfl⟩ : ∃ j : Nat, at' = (j : Int) := ⟨at'.toNat, by omega⟩
          have hj : j < n := by omega
          have hjz : (j : Int) < (n : Int) := by omega
          have CS := cspread_ok (K := k) (d := d) (w := w6) Hcode.out (by omega) hj p1
          unfold pv at CS
          obtain ⟨s1, s2, s3⟩ := Hsp.out j hj
          have Hcell := Lib.hid (syms_cell (us := us) p1 s1)
          have Hrl : Hid (((symsL S k us)[j / S]?.getD []).length = S) := Lib.hid (by rw [symsL_get us s1]; exact symL_len _ _ _)
          clear hat
          generalize j / S = q at *
          generalize j % S = r' at *
          go_wp2_with fail
          refine CS.mono ?_
          rintro e w8 ⟨rfl, b8⟩
          obtain ⟨bq, oq, Aq, cq, eq, hbq, hcq, hrq⟩ := (HR4.out w8 b8).at_ s1
          injection eq with eq
          injection eq with eq eq2
          subst eq eq2
          rw [Hrl.out] at hcq hrq
          rw [Nat.zero_add] at hcq
          obtain ⟨br, or', rfl, hbr, hcr⟩ := hrq.at_ s2
          rw [Hcell.out] at hcr
          obtain ⟨bo, oo, rfl, hbo, hco⟩ := (hro.step b8).at_ hj
          generalize us[j]?.getD 0 = u at *
          replace hb4 := bstep hb4 b8
          have s1z : (q : Int) < (k : Int) := by omega
          have s2z : (r' : Int) < (S : Int) := by omega
          have hm1 : q * S ≤ 2000 := by omega
          have hw1 : IntKind.i64.wrap ((q : Int) * (S : Int)) = ((q * S : Nat) : Int) := by rw [← Int.natCast_mul]; exact IntWalk.i64_in _ ⟨by omega, by omega⟩
          have hw3 : ((q : Int) * (S : Int) + (r' : Int) == (j : Int)) = true := by rw [beq_iff_eq, ← Int.natCast_mul]; omega
          have hw2 : IntKind.i64.wrap (((q * S : Nat) : Int) + (r' : Int)) = (j : Int) := by rw [show (((q * S : Nat) : Int) + (r' : Int)) = (j : Int) by omega]; exact IntWalk.i64_in _ ⟨by omega, by omega⟩
          clear b8 hrq hro HR4 a0 a1 a2 a3 CS Hsp s3
          go_wp2_with fail
          go_quiet (fail)
          go_wp2_with fail
          go_ret
          exact ⟨rfl, below_drewN hb4 _⟩
theorem cutjoins_walk (A : Option Addr) (n c : Nat) (us : List UInt8) (s i d : Int) (w : World) (r : Rd w w.heap.size A n us) (hn : n ≤ c ∧ c ≤ maxLen) (ws : (Lit.int .i64 s).wf = true) (wi : (Lit.int .i64 i).wf = true) (wd : (Lit.int .u32 d).wf = true) :
    Calls Try.prog 4 #[.slice A n c, .int .i64 s, .int .i64 i, .int .u32 d] w fun e w' => e = .returned (.bool true) ∧ Below w.heap.size w w' := by
  have s2 := (bounds_i64 ws).1
  obtain ⟨hc, hcc⟩ := hn
  replace hcc : c ≤ 9223372036854775807 := by unfold maxLen at hcc; omega
  by_cases h1 : 2000 < n
  · exact cj_long h1
  · by_cases h2 : 2000 < s
    · exact cj_wide (by omega) h2
    · by_cases hf : boundsC n s = 0
      · obtain ⟨b1, b2, b3, b4, b5⟩ := bounds_ok hf
        obtain ⟨S, rfl⟩ : ∃ S : Nat, s = (S : Int) := ⟨s.toNat, by omega⟩
        obtain ⟨K, hK⟩ : ∃ K : Nat, needsN n S = (K : Int) := ⟨(needsN n S).toNat, by omega⟩
        exact cj_ok r hc hcc (by omega) (by omega) hf hK
      · exact cj_bad (by omega) (by omega) s2 hf
end Go.Proofs.Ytheohcebiimdoaa
