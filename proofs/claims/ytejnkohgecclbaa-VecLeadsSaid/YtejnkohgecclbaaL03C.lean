import Derived.Test.YtejnkohgecclbaaVecM
import Derived.Test.YtejnkohgecclbaaL03B
/- Proved: for every input VecLeads returns true and leaves what it is handed as it was. No condition. -/
namespace Go.Proofs.Ytejnkohgecclbaa
open Go.Joins Go.ChangeShapes Go.WideShapes Go.ChangeAt Go.RowKit
open Go.ChangeMaps (open_string shut_string)
set_option linter.unusedVariables false
set_option maxRecDepth 100000

theorem bv_0 : bv 0 = 0 := by decide
theorem bv_1 : bv 1 = 1 := by decide
set_option maxHeartbeats 4000000 in
theorem leads_main (A1 : Option Addr) (n1 c1 : Nat) (A2 : Option Addr) (n2 c2 : Nat) (A3 : Option Addr) (n3 c3 : Nat) (A4 : Option Addr) (n4 c4 : Nat) (r o : List UInt8 × List UInt8) (w : World)
    (h1 : Rd w w.heap.size A1 n1 r.1) (h2 : Rd w w.heap.size A2 n2 r.2) (h3 : Rd w w.heap.size A3 n3 o.1) (h4 : Rd w w.heap.size A4 n4 o.2) (l1 : n1 ≤ 100) (l2 : n2 ≤ 100) (l3 : n3 ≤ 100) (l4 : n4 ≤ 100) :
    Calls Try.prog 5 #[.agg #[.slice A1 n1 c1, .slice A2 n2 c2], .agg #[.slice A3 n3 c3, .slice A4 n4 c4]] w fun e w' => e = .returned (.bool true) ∧ Below w.heap.size w w' := by
  obtain ⟨hb0, bx, by_⟩ := two_alloc (w := w) (T := 33) (T2 := 33) (cs := #[.slice A1 n1 c1, .slice A2 n2 c2]) (cs2 := #[.slice A3 n3 c3, .slice A4 n4 c4])
  have rx : RowIs w r (.agg #[.slice A1 n1 c1, .slice A2 n2 c2]) := ⟨_, _, _, _, _, _, rfl, h1, h2, by omega, by omega⟩
  have ry : RowIs w o (.agg #[.slice A3 n3 c3, .slice A4 n4 c4]) := ⟨_, _, _, _, _, _, rfl, h3, h4, by omega, by omega⟩
  replace rx := rx.step hb0
  replace ry := ry.step hb0
  have e1 := Lib.hid h1.1
  have e2 := Lib.hid h2.1
  have e3 := Lib.hid h3.1
  have e4 := Lib.hid h4.1
  have CR := fun w x (h : RowIs w r x) => c_norm h
  have LB := lead_bounds r.1
  have HN := norm_len r
  have HL := norm_lead r
  have HA : ¬ leadI r.1 < 0 → atB (normR r).1 (leadI r.1) = 1 := norm_at
  have HM := norm_norm r
  have CL := fun w1 B A n c q => lead_any (w := w1) (A := A) (n := n) (c := c) (us := r.1) (q : Rd w1 B A n r.1)
  have CNL := fun w1 B A n c q => lead_any (w := w1) (A := A) (n := n) (c := c) (us := (normR r).1) (q : Rd w1 B A n (normR r).1)
  rw [HL] at CNL
  have CN := fun w x (h : RowIs w (normR r) x) => c_norm h
  rw [HM] at CN
  generalize hNr : normR r = N at *
  have g1 : -1 ≤ leadI r.1 := by omega
  have g2 : leadI r.1 ≤ 100 := by have := e1.out; omega
  have g3 : leadI r.1 < 0 ∨ (0 ≤ leadI r.1 ∧ leadI r.1 < n1) := by have := e1.out; omega
  have HN1 := Lib.hid HN.1
  have HN2 := Lib.hid HN.2
  have HHL := Lib.hid HL
  have HHA := Lib.hid HA
  generalize hL : leadI r.1 = L at *
  have HhL := Lib.hid hL
  clear h1 h2 h3 h4 HN HL HA HM hNr hL LB
  go_enter Try.func5, Try.ntmps5
  go_wp2_with fail
  refine (awake3 _).mono ?_
  rintro e w1 ⟨rfl, hB⟩
  generalize (w.alloc (.cells #[.slice A1 n1 c1, .slice A2 n2 c2] 33)).alloc (.cells #[.slice A3 n3 c3, .slice A4 n4 c4] 33) = W at *
  obtain ⟨k0, k1, k2, k3⟩ := cells22 bx by_ hB
  go_wp2_with fail
  refine (few3_any (by omega) (by omega)).mono ?_
  rintro e w2 ⟨rfl, b⟩
  replace hB := bstep hB b
  clear k0 k1 k2 k3 b
  obtain ⟨k0, k1, k2, k3⟩ := cells22 bx by_ hB
  go_wp2_with fail
  refine (few3_any (by omega) (by omega)).mono ?_
  rintro e w3 ⟨rfl, b⟩
  replace hB := bstep hB b
  clear k0 k1 k2 k3 b
  obtain ⟨k0, k1, k2, k3⟩ := cells22 bx by_ hB
  go_wp2_with fail
  refine (c_make (rx.step hB)).mono ?_
  rintro e w4 ⟨v, rfl, ⟨A5, n5, c5, A6, n6, c6, rfl, q1, q2, m1, m2⟩, b⟩
  have rr : RowIs w4 r (.agg #[.slice A5 n5 c5, .slice A6 n6 c6]) := ⟨_, _, _, _, _, _, rfl, q1, q2, m1, m2⟩
  replace hB := bstep hB b
  clear k0 k1 k2 k3 b q1 q2
  go_wp2_with fail
  have br := Blk.new w4 35 #[.slice A5 n5 c5, .slice A6 n6 c6]
  replace hB := bstep hB (balloc w4 (.cells #[.slice A5 n5 c5, .slice A6 n6 c6] 35))
  replace rr := rr.step (balloc w4 (.cells #[.slice A5 n5 c5, .slice A6 n6 c6] 35))
  generalize w4.alloc (.cells #[.slice A5 n5 c5, .slice A6 n6 c6] 35) = V4 at *
  generalize w4.heap.size = g5 at *
  refine (CR _ _ rr).mono ?_
  rintro e w5 ⟨v, rfl, ⟨A7, n7, c7, A8, n8, c8, rfl, q1, q2, m3, m4⟩, b⟩
  have rn : RowIs w5 N (.agg #[.slice A7 n7 c7, .slice A8 n8 c8]) := ⟨_, _, _, _, _, _, rfl, q1, q2, m3, m4⟩
  have e7 := Lib.hid q1.1
  have e8 := Lib.hid q2.1
  go_upto_region 7 with fail
  have b' := bstep b (balloc w5 (.cells #[.slice A7 n7 c7, .slice A8 n8 c8] 35))
  have hB' := bstep hB b'
  have hT := bstep hb0 hB'
  have bn := Blk.new w5 35 #[.slice A7 n7 c7, .slice A8 n8 c8]
  replace rn := rn.step (balloc w5 (.cells #[.slice A7 n7 c7, .slice A8 n8 c8] 35))
  replace br := br.below b' br.lt
  replace rr := rr.step b'
  replace bx := bx.below hB' bx.lt
  replace by_ := by_.below hB' by_.lt
  replace rx := rx.step hB'
  replace ry := ry.step hB'
  clear hB' b' b hB hb0 q1 q2
  generalize w5.alloc (.cells #[.slice A7 n7 c7, .slice A8 n8 c8] 35) = V at *
  generalize w5.heap.size = g6 at *
  generalize w.heap.size + 1 = g4 at *
  obtain ⟨k0, k1, k2, k3⟩ := cells22 br bn (Below.refl _ V)
  obtain ⟨A5', n5', c5', A6', n6', c6', q0, q1, q2, _, _⟩ := rr
  injection q0 with q0
  simp only [Array.mk.injEq, List.cons.injEq, Value.slice.injEq, and_true] at q0
  obtain ⟨⟨rfl, rfl, rfl⟩, rfl, rfl, rfl⟩ := q0
  have rr : RowIs V r (.agg #[.slice A5 n5 c5, .slice A6 n6 c6]) := ⟨_, _, _, _, _, _, rfl, q1, q2, m1, m2⟩
  go_wp2_with fail
  refine (CL _ _ _ _ _ q1 (by omega)).mono ?_
  rintro e w' ⟨rfl, rfl⟩
  clear k0 k1 k2 k3 q1 q2
  go_upto_region 8 with fail
  obtain ⟨A7', n7', c7', A8', n8', c8', q0, qn, qn2, _, _⟩ := id rn
  injection q0 with q0
  simp only [Array.mk.injEq, List.cons.injEq, Value.slice.injEq, and_true] at q0
  obtain ⟨⟨rfl, rfl, rfl⟩, rfl, rfl, rfl⟩ := q0
  have HS : Hid (∀ w', Below V.heap.size V w' → (Below V.heap.size V w' ∧ w'.cell? ⟨g6, 0, none⟩ = some (.slice A7 n7 c7) ∧ w'.cell? ⟨g6, 1, none⟩ = some (.slice A8 n8 c8))) := Lib.hid fun w' hb => by
    obtain ⟨k0, k1, _, _⟩ := cells2 (bn.below hb bn.lt)
    exact ⟨hb, k0, k1⟩
  rcases g3 with hneg | ⟨hpos, hlt⟩
  · clear CL CR
    have t0 : decide ((0 : Int) ≤ L) = false := by simp; omega
    refine wp_region_noPanic ?_
    refine wp_region_held_drew (S := fun w' => Below V.heap.size V w' ∧ w'.cell? ⟨g6, 0, none⟩ = some (.slice A7 n7 c7) ∧ w'.cell? ⟨g6, 1, none⟩ = some (.slice A8 n8 c8)) (by kernel_rfl) (by (refine HS.out _ ?_; first | exact (Below.refl _ _).drew | exact (And.left ‹Below V.heap.size V _ ∧ True›))) (fun hHeld => ?_)
    refine wpAnyH_take (i := 0) (v := .pointer (some ⟨g6, 0, none⟩)) rfl (by kernel_rfl) (by kernel_rfl) (by kernel_rfl) (fun _ _ _ h => h) (Or.inl ⟨by rfl, fun w hSw => by (try dsimp only at hSw); go_simp⟩) (by assumption) ?_
    try simp only [Act.put, List.setIfInBounds_toArray, List.set_cons_zero, List.set_cons_succ]
    refine wpAnyH_take (i := 1) (v := .slice A7 n7 c7) rfl (by kernel_rfl) (by kernel_rfl) (by kernel_rfl) (fun _ _ _ h => h) (Or.inl ⟨by rfl, fun w hSw => by (try dsimp only at hSw); go_simp⟩) (by assumption) ?_
    try simp only [Act.put, List.setIfInBounds_toArray, List.set_cons_zero, List.set_cons_succ]
    refine wpAnyH_take (i := 3) (v := .int .i64 L) rfl (by kernel_rfl) (by kernel_rfl) (by kernel_rfl) (fun _ _ _ h => h) (Or.inl ⟨by rfl, fun w hSw => by (try dsimp only at hSw); go_simp⟩) (by assumption) ?_
    try simp only [Act.put, List.setIfInBounds_toArray, List.set_cons_zero, List.set_cons_succ]
    refine wpAnyH_ready (rs := [2]) (by kernel_rfl) (by simp) ?_
    refine AllReadyH.cons rfl (fun K hK => ?_) AllReadyH.nil
    go_simp
    refine (CNL _ _ _ _ _ (qn.step (And.left ‹Below V.heap.size V _ ∧ _›)) (by omega)).mono ?_; rintro e w' ⟨rfl, rfl⟩; simp only []
    refine hK.out _ _ (by (refine HS.out _ ?_; first | exact (Below.refl _ _).drew | exact (And.left ‹Below V.heap.size V _ ∧ True›))) (fun hHeld => ?_)
    clear hK K
    try simp only [Act.put, List.setIfInBounds_toArray, List.set_cons_zero, List.set_cons_succ]
    refine wpAnyH_take (i := 4) (v := .bool false) rfl (by kernel_rfl) (by kernel_rfl) (by kernel_rfl) (fun _ _ _ h => h) (Or.inl ⟨by rfl, fun w hSw => by (try dsimp only at hSw); go_simp⟩) (by assumption) ?_
    try simp only [Act.put, List.setIfInBounds_toArray, List.set_cons_zero, List.set_cons_succ]
    refine wpAnyH_take (i := 5) (v := .bool false) rfl (by kernel_rfl) (by kernel_rfl) (by kernel_rfl) (fun _ _ _ h => h) (Or.inl ⟨by rfl, fun w hSw => by (try dsimp only at hSw); go_simp⟩) (by assumption) ?_
    try simp only [Act.put, List.setIfInBounds_toArray, List.set_cons_zero, List.set_cons_succ]
    refine wpAnyH_take (i := 6) (v := .int .i64 L) rfl (by kernel_rfl) (by kernel_rfl) (by kernel_rfl) (fun _ _ _ h => h) (Or.inl ⟨by rfl, fun w hSw => by (try dsimp only at hSw); go_simp⟩) (by assumption) ?_
    try simp only [Act.put, List.setIfInBounds_toArray, List.set_cons_zero, List.set_cons_succ]
    refine wpAnyH_take (i := 7) (v := .bool false) rfl (by kernel_rfl) (by kernel_rfl) (by kernel_rfl) (fun _ _ _ h => h) (Or.inl ⟨by rfl, fun w hSw => by (try dsimp only at hSw); go_simp⟩) (by assumption) ?_
    try simp only [Act.put, List.setIfInBounds_toArray, List.set_cons_zero, List.set_cons_succ]
    refine wpAnyH_take (i := 8) (v := .bool false) rfl (by kernel_rfl) (by kernel_rfl) (by kernel_rfl) (fun _ _ _ h => h) (Or.inl ⟨by rfl, fun w hSw => by (try dsimp only at hSw); go_simp⟩) (by assumption) ?_
    try simp only [Act.put, List.setIfInBounds_toArray, List.set_cons_zero, List.set_cons_succ]
    refine wpAnyH_take (i := 9) (v := undef) rfl (by kernel_rfl) (by kernel_rfl) (by kernel_rfl) (fun _ _ _ h => h) (Or.inr ⟨by kernel_rfl, rfl⟩) (by assumption) ?_
    try simp only [Act.put, List.setIfInBounds_toArray, List.set_cons_zero, List.set_cons_succ]
    refine wpAnyH_take (i := 10) (v := undef) rfl (by kernel_rfl) (by kernel_rfl) (by kernel_rfl) (fun _ _ _ h => h) (Or.inr ⟨by kernel_rfl, rfl⟩) (by assumption) ?_
    try simp only [Act.put, List.setIfInBounds_toArray, List.set_cons_zero, List.set_cons_succ]
    refine wpAnyH_take (i := 11) (v := undef) rfl (by kernel_rfl) (by kernel_rfl) (by kernel_rfl) (fun _ _ _ h => h) (Or.inr ⟨by kernel_rfl, rfl⟩) (by assumption) ?_
    try simp only [Act.put, List.setIfInBounds_toArray, List.set_cons_zero, List.set_cons_succ]
    refine wpAnyH_ready (rs := [12]) (by kernel_rfl) (by simp) ?_
    refine AllReadyH.cons rfl (fun K hK => ?_) AllReadyH.nil
    go_simp
    refine hK.out _ _ (by assumption) (fun hHeld => ?_)
    clear hK K
    try simp only [Act.put, List.setIfInBounds_toArray, List.set_cons_zero, List.set_cons_succ]
    refine wpAnyH_take (i := 13) (v := undef) rfl (by kernel_rfl) (by kernel_rfl) (by kernel_rfl) (fun _ _ _ h => h) (Or.inr ⟨by kernel_rfl, rfl⟩) (by assumption) ?_
    try simp only [Act.put, List.setIfInBounds_toArray, List.set_cons_zero, List.set_cons_succ]
    refine wpAnyH_take (i := 14) (v := .bool false) rfl (by kernel_rfl) (by kernel_rfl) (by kernel_rfl) (fun _ _ _ h => h) (Or.inl ⟨by rfl, fun w hSw => by (try dsimp only at hSw); go_simp⟩) (by assumption) ?_
    try simp only [Act.put, List.setIfInBounds_toArray, List.set_cons_zero, List.set_cons_succ]
    refine wpAnyH_take (i := 15) (v := .bool false) rfl (by kernel_rfl) (by kernel_rfl) (by kernel_rfl) (fun _ _ _ h => h) (Or.inl ⟨by rfl, fun w hSw => by (try dsimp only at hSw); go_simp⟩) (by assumption) ?_
    try simp only [Act.put, List.setIfInBounds_toArray, List.set_cons_zero, List.set_cons_succ]
    refine wpAnyH_take (i := 16) (v := .bool false) rfl (by kernel_rfl) (by kernel_rfl) (by kernel_rfl) (fun _ _ _ h => h) (Or.inl ⟨by rfl, fun w hSw => by (try dsimp only at hSw); go_simp⟩) (by assumption) ?_
    try simp only [Act.put, List.setIfInBounds_toArray, List.set_cons_zero, List.set_cons_succ]
    refine wpAnyH_take (i := 17) (v := .agg #[.slice A7 n7 c7, .slice A8 n8 c8]) rfl (by kernel_rfl) (by kernel_rfl) (by kernel_rfl) (fun _ _ _ h => h) (Or.inl ⟨by rfl, fun w hSw => by (try dsimp only at hSw); go_simp⟩) (by assumption) ?_
    try simp only [Act.put, List.setIfInBounds_toArray, List.set_cons_zero, List.set_cons_succ]
    refine wpAnyH_take (i := 19) (v := .agg #[.slice A7 n7 c7, .slice A8 n8 c8]) rfl (by kernel_rfl) (by kernel_rfl) (by kernel_rfl) (fun _ _ _ h => h) (Or.inl ⟨by rfl, fun w hSw => by (try dsimp only at hSw); go_simp⟩) (by assumption) ?_
    try simp only [Act.put, List.setIfInBounds_toArray, List.set_cons_zero, List.set_cons_succ]
    refine wpAnyH_ready (rs := [18]) (by kernel_rfl) (by simp) ?_
    refine AllReadyH.cons rfl (fun K hK => ?_) AllReadyH.nil
    go_simp
    refine (CN _ _ (rn.step (And.left ‹Below V.heap.size V _ ∧ _›))).mono ?_; rintro e wk ⟨vk, rfl, rk, bk⟩; have kB := And.intro (bstep (And.left ‹Below V.heap.size V _ ∧ _›) bk) trivial; simp only []
    refine hK.out _ _ (by (refine HS.out _ ?_; first | exact (Below.refl _ _).drew | exact (And.left ‹Below V.heap.size V _ ∧ True›))) (fun hHeld => ?_)
    clear hK K
    try simp only [Act.put, List.setIfInBounds_toArray, List.set_cons_zero, List.set_cons_succ]
    refine wpAnyH_ready (rs := [20]) (by kernel_rfl) (by simp) ?_
    refine AllReadyH.cons rfl (fun K hK => ?_) AllReadyH.nil
    go_simp
    refine (c_same_self rk (rn.step (And.left ‹Below V.heap.size V _ ∧ _›))).mono ?_; rintro e wm ⟨rfl, bm⟩; have kB2 := And.intro (bstep (And.left ‹Below V.heap.size V _ ∧ _›) bm) trivial; simp only []
    refine hK.out _ _ (by (refine HS.out _ ?_; first | exact (Below.refl _ _).drew | exact (And.left ‹Below V.heap.size V _ ∧ True›))) (fun hHeld => ?_)
    clear hK K
    try simp only [Act.put, List.setIfInBounds_toArray, List.set_cons_zero, List.set_cons_succ]
    refine wpAnyH_take (i := 21) (v := .bool false) rfl (by kernel_rfl) (by kernel_rfl) (by kernel_rfl) (fun _ _ _ h => h) (Or.inl ⟨by rfl, fun w hSw => by (try dsimp only at hSw); go_simp⟩) (by assumption) ?_
    try simp only [Act.put, List.setIfInBounds_toArray, List.set_cons_zero, List.set_cons_succ]
    refine wpAnyH_take (i := 22) (v := .bool false) rfl (by kernel_rfl) (by kernel_rfl) (by kernel_rfl) (fun _ _ _ h => h) (Or.inl ⟨by rfl, fun w hSw => by (try dsimp only at hSw); go_simp⟩) (by assumption) ?_
    try simp only [Act.put, List.setIfInBounds_toArray, List.set_cons_zero, List.set_cons_succ]
    refine wpAnyH_done (by kernel_rfl) ?_ _
    refine NoPanic.normal ?_
    have hB8 := (And.left ‹Below V.heap.size V _ ∧ _›)
    obtain ⟨z0, z1, _, _⟩ := cells2 (by_.below hB8 by_.lt)
    go_wp2_with fail
    refine (c_make (ry.step hB8)).mono ?_
    rintro e w9 ⟨v, rfl, ⟨A9, n9, c9, A10, n10, c10, rfl, q1, q2, m5, m6⟩, b⟩
    have ro : RowIs w9 o (.agg #[.slice A9 n9 c9, .slice A10 n10 c10]) := ⟨_, _, _, _, _, _, rfl, q1, q2, m5, m6⟩
    have hB9 := bstep hB8 b
    clear b z0 z1
    go_upto_region 11 with fail
    go_wp2_with fail
    go_ret
    exact ⟨rfl, bstep hT (bstep hB9 (balloc _ _))⟩
  · have CA := fun w1 B q => at_any (w := w1) (c := c7) (q : Rd w1 B A7 n7 N.1) (by omega) L (by omega) (by omega)
    rw [HHA.out hpos, bv_1] at CA
    clear CL CR
    have t0 : decide ((0 : Int) ≤ L) = true := by simp; omega
    go_region_held3 (fun w' => Below V.heap.size V w' ∧ w'.cell? ⟨g6, 0, none⟩ = some (.slice A7 n7 c7) ∧ w'.cell? ⟨g6, 1, none⟩ = some (.slice A8 n8 c8)) ((refine HS.out _ ?_; first | exact (Below.refl _ _).drew | exact (And.left ‹Below V.heap.size V _ ∧ True›)))
      (first
          | (go_at_call 7; refine (CNL _ _ _ _ _ (qn.step (And.left ‹Below V.heap.size V _ ∧ _›)) (by omega)).mono ?_; rintro e w' ⟨rfl, rfl⟩)
          | (go_at_call 10; refine (CA _ _ (qn.step (And.left ‹Below V.heap.size V _ ∧ _›))).mono ?_; rintro e w' ⟨rfl, rfl⟩)
          | (go_at_call 19; refine (CN _ _ (rn.step (And.left ‹Below V.heap.size V _ ∧ _›))).mono ?_; rintro e wk ⟨vk, rfl, rk, bk⟩; have kB := And.intro (bstep (And.left ‹Below V.heap.size V _ ∧ _›) bk) trivial)
          | (go_at_call 21; apply Calls.mono; (focus ((with_reducible apply c_same_self); (repeat (first | exact rx.step (And.left ‹Below V.heap.size V _ ∧ _›) | exact ry.step (And.left ‹Below V.heap.size V _ ∧ _›) | exact rr.step (And.left ‹Below V.heap.size V _ ∧ _›) | exact rn.step (And.left ‹Below V.heap.size V _ ∧ _›) | assumption | (focus (apply RowIs.step; rotate_left 1; assumption)))); done)); rintro e wk ⟨rfl, bk⟩; have kB := And.intro (bstep (And.left ‹Below V.heap.size V _ ∧ _›) bk) trivial))
    have hB8 := (And.left ‹Below V.heap.size V _ ∧ _›)
    obtain ⟨z0, z1, _, _⟩ := cells2 (by_.below hB8 by_.lt)
    go_wp2_with fail
    refine (c_make (ry.step hB8)).mono ?_
    rintro e w9 ⟨v, rfl, ⟨A9, n9, c9, A10, n10, c10, rfl, q1, q2, m5, m6⟩, b⟩
    have ro : RowIs w9 o (.agg #[.slice A9 n9 c9, .slice A10 n10 c10]) := ⟨_, _, _, _, _, _, rfl, q1, q2, m5, m6⟩
    have hB9 := bstep hB8 b
    clear b z0 z1
    go_upto_region 11 with fail
    have hB10 := bstep hB9 (balloc w9 (.cells #[.slice A9 n9 c9, .slice A10 n10 c10] 35))
    replace hT := bstep hT hB10
    have bo := Blk.new w9 35 #[.slice A9 n9 c9, .slice A10 n10 c10]
    replace ro := ro.step (balloc w9 (.cells #[.slice A9 n9 c9, .slice A10 n10 c10] 35))
    replace bx := bx.below hB10 bx.lt
    replace by_ := by_.below hB10 by_.lt
    replace bn := bn.below hB10 bn.lt
    replace rn := rn.step hB10
    clear HS hB10 hB9 q1 q2 rx ry rr br qn qn2
    generalize w9.alloc (.cells #[.slice A9 n9 c9, .slice A10 n10 c10] 35) = V at *
    generalize w9.heap.size = g8 at *
    obtain ⟨A9', n9', c9', A10', n10', c10', q0, qo, qo2, _, _⟩ := id ro
    injection q0 with q0
    simp only [Array.mk.injEq, List.cons.injEq, Value.slice.injEq, and_true] at q0
    obtain ⟨⟨rfl, rfl, rfl⟩, rfl, rfl, rfl⟩ := q0
    have e9 := Lib.hid qo.1
    have e10 := Lib.hid qo2.1
    obtain ⟨z0, z1, _, _⟩ := cells2 bo
    have COL := lead_any (c := c9) qo (by omega)
    go_wp2_with fail
    refine COL.mono ?_
    rintro e w' ⟨rfl, rfl⟩
    clear COL
    by_cases hLL : leadI o.1 = L
    · rw [hLL]
      have HLL := Lib.hid hLL
      clear hLL z0 z1
      go_upto_region 13 with fail
      obtain ⟨i, rfl⟩ : ∃ i : Nat, L = (i : Int) := ⟨L.toNat, by omega⟩
      have i9 : i < n9 := by
        have h1 := lead_bounds o.1
        have h2 := HLL.out
        have h3 := e9.out
        omega
      have i7 : i < n7 := by
        have h2 := HN1.out
        have h3 := e7.out
        have h4 := e1.out
        omega
      have CO := fun w1 B q => at_in (w := w1) (c := c9) (q : Rd w1 B A9 n9 o.1) (by omega) i i9
      generalize ha : o.1[i]?.getD 0 = a at CO
      have Ha := Lib.hid ha
      clear ha
      have HS : Hid (∀ w', Below V.heap.size V w' → (Below V.heap.size V w' ∧ w'.cell? ⟨g8, 0, none⟩ = some (.slice A9 n9 c9) ∧ w'.cell? ⟨g8, 1, none⟩ = some (.slice A10 n10 c10) ∧ w'.cell? ⟨g6, 0, none⟩ = some (.slice A7 n7 c7) ∧ w'.cell? ⟨g6, 1, none⟩ = some (.slice A8 n8 c8))) := Lib.hid fun w' hb => by
        obtain ⟨k0, k1, k2, k3⟩ := cells22 bo bn hb
        exact ⟨hb, k0, k1, k2, k3⟩
      go_cut [9, 10] (fun s8 s9 wx => ∃ g, s8 = .pointer (some ⟨g, 0, none⟩) ∧ s9 = .int .i64 (lessR o a N).2 ∧ Holds wx g 35 (lessR o a N).1 ∧ Below V.heap.size V wx)
      case first =>
        go_region_held3 (fun w' => Below V.heap.size V w' ∧ w'.cell? ⟨g8, 0, none⟩ = some (.slice A9 n9 c9) ∧ w'.cell? ⟨g8, 1, none⟩ = some (.slice A10 n10 c10) ∧ w'.cell? ⟨g6, 0, none⟩ = some (.slice A7 n7 c7) ∧ w'.cell? ⟨g6, 1, none⟩ = some (.slice A8 n8 c8))
          ((refine HS.out _ ?_; first | exact (Below.refl _ _).drew | assumption | exact bstep (And.left ‹Below V.heap.size V _ ∧ _›) (balloc _ _) | go_grown))
          (first
            | (go_at_call 10; refine (CO _ _ (qo.step (And.left ‹Below V.heap.size V _ ∧ _›))).mono ?_; rintro e w' ⟨rfl, rfl⟩)
            | (go_at_call 14; (with_reducible refine (c_less (r := o) (o := N) a (w := (V.alloc (.cells #[.slice none 0 0, .slice none 0 0] 35)).drew) (ro.step (And.left ‹Below V.heap.size V _ ∧ _›)) (rn.step (And.left ‹Below V.heap.size V _ ∧ _›))).mono ?_); rintro e w7 ⟨v7, rfl, ⟨A11, n11, c11, A12, n12, c12, rfl, q7, q8, l7, l8⟩, b7⟩; have kB7 := bstep (And.left ‹Below V.heap.size V _ ∧ _›) b7; have kg := (Blk.new V 35 #[.slice none 0 0, .slice none 0 0]).drew.below b7 (by simp); obtain ⟨z0, z1, z2, z3⟩ := cells2 kg; have zs := Nat.le_refl V.heap.size)
            | (go_at_call 14; (with_reducible refine (c_less (r := o) (o := N) a (w := V.drew) (ro.step (And.left ‹Below V.heap.size V _ ∧ _›)) (rn.step (And.left ‹Below V.heap.size V _ ∧ _›))).mono ?_); rintro e w7 ⟨v7, rfl, ⟨A11, n11, c11, A12, n12, c12, rfl, q7, q8, l7, l8⟩, b7⟩; have kB7 := bstep (And.left ‹Below V.heap.size V _ ∧ _›) b7; have zs := kB7.size))
        all_goals
          go_wp2_with fail
          go_meet
          have r7 : RowIs w7 (lessR o a N).1 (.agg #[.slice A11 n11 c11, .slice A12 n12 c12]) := ⟨_, _, _, _, _, _, rfl, q7, q8, l7, l8⟩
          first
          | exact ⟨_, rfl, rfl, Holds.set kg r7, (kB7.setCell zs _).setCell zs _⟩
          | exact ⟨_, rfl, rfl, Holds.new r7, bstep kB7 (balloc _ _)⟩
      case rest =>
        obtain ⟨g9, rfl, rfl, hH9, hB13⟩ := hcut
        by_cases hlen : N.1.length = o.1.length ∧ N.2.length = o.2.length
        · have e : lessR o a N = ((addL a N.1 o.1, addL a N.2 o.2), 0) := by simp [lessR, hlen]
          rw [e] at hH9 ⊢
          obtain ⟨A13, n13, c13, A14, n14, c14, b9, r9⟩ := hH9
          obtain ⟨A13', n13', c13', A14', n14', c14', q0, q9, q10, _, _⟩ := id r9
          injection q0 with q0
          simp only [Array.mk.injEq, List.cons.injEq, Value.slice.injEq, and_true] at q0
          obtain ⟨⟨rfl, rfl, rfl⟩, rfl, rfl, rfl⟩ := q0
          clear e
          have i13 : i < n13 := by
            have h1 := q9.1
            have h2 := e9.out
            rw [addL_length] at h1
            omega
          have HN7 : Hid (N.1[i]?.getD 0 = 1) := Lib.hid (by
            have h1 := HHA.out (by omega)
            have h2 := e7.out
            unfold atB at h1
            rw [if_pos (by omega), Int.toNat_natCast] at h1
            exact h1)
          go_upto_region 16 with fail
          replace bo := bo.below hB13 bo.lt
          replace bn := bn.below hB13 bn.lt
          replace ro := ro.step hB13
          replace rn := rn.step hB13
          replace qo := qo.step hB13
          replace hT := bstep hT hB13
          clear HS hB13 bx by_ q10
          generalize wc = V at *
          have HS : Hid (∀ w', Below V.heap.size V w' → (Below V.heap.size V w' ∧ w'.cell? ⟨g9, 0, none⟩ = some (.slice A13 n13 c13) ∧ w'.cell? ⟨g9, 1, none⟩ = some (.slice A14 n14 c14) ∧ w'.cell? ⟨g8, 0, none⟩ = some (.slice A9 n9 c9) ∧ w'.cell? ⟨g8, 1, none⟩ = some (.slice A10 n10 c10) ∧ w'.cell? ⟨g6, 0, none⟩ = some (.slice A7 n7 c7) ∧ w'.cell? ⟨g6, 1, none⟩ = some (.slice A8 n8 c8))) := Lib.hid fun w' hb => by
            obtain ⟨k0, k1, k2, k3⟩ := cells22 b9 bo hb
            obtain ⟨k4, k5, _, _⟩ := cells2 (bn.below hb bn.lt)
            exact ⟨hb, k0, k1, k2, k3, k4, k5⟩
          go_cut [11, 12] (fun s8 s9 wx => ∃ g, s8 = .pointer (some ⟨g, 0, none⟩) ∧ s9 = .int .i64 (lessR (addL a N.1 o.1, addL a N.2 o.2) a N).2 ∧ Holds wx g 35 (lessR (addL a N.1 o.1, addL a N.2 o.2) a N).1 ∧ Below V.heap.size V wx)
          case first =>
            go_region_held3 (fun w' => Below V.heap.size V w' ∧ w'.cell? ⟨g9, 0, none⟩ = some (.slice A13 n13 c13) ∧ w'.cell? ⟨g9, 1, none⟩ = some (.slice A14 n14 c14) ∧ w'.cell? ⟨g8, 0, none⟩ = some (.slice A9 n9 c9) ∧ w'.cell? ⟨g8, 1, none⟩ = some (.slice A10 n10 c10) ∧ w'.cell? ⟨g6, 0, none⟩ = some (.slice A7 n7 c7) ∧ w'.cell? ⟨g6, 1, none⟩ = some (.slice A8 n8 c8))
              ((refine HS.out _ ?_; first | exact (Below.refl _ _).drew | assumption | exact bstep (And.left ‹Below V.heap.size V _ ∧ _›) (balloc _ _) | go_grown))
              (first
                | (go_at_call 10; refine (CO _ _ (qo.step (And.left ‹Below V.heap.size V _ ∧ _›))).mono ?_; rintro e w' ⟨rfl, rfl⟩)
                | (go_at_call 14; (with_reducible refine (c_less (r := (addL a N.1 o.1, addL a N.2 o.2)) (o := N) a (w := (V.alloc (.cells #[.slice none 0 0, .slice none 0 0] 35)).drew) (r9.step (And.left ‹Below V.heap.size V _ ∧ _›)) (rn.step (And.left ‹Below V.heap.size V _ ∧ _›))).mono ?_); rintro e w7 ⟨v7, rfl, ⟨A11, n11, c11, A12, n12, c12, rfl, q7, q8, l7, l8⟩, b7⟩; have kB7 := bstep (And.left ‹Below V.heap.size V _ ∧ _›) b7; have kg := (Blk.new V 35 #[.slice none 0 0, .slice none 0 0]).drew.below b7 (by simp); obtain ⟨z0, z1, z2, z3⟩ := cells2 kg; have zs := Nat.le_refl V.heap.size)
                | (go_at_call 14; (with_reducible refine (c_less (r := (addL a N.1 o.1, addL a N.2 o.2)) (o := N) a (w := V.drew) (r9.step (And.left ‹Below V.heap.size V _ ∧ _›)) (rn.step (And.left ‹Below V.heap.size V _ ∧ _›))).mono ?_); rintro e w7 ⟨v7, rfl, ⟨A11, n11, c11, A12, n12, c12, rfl, q7, q8, l7, l8⟩, b7⟩; have kB7 := bstep (And.left ‹Below V.heap.size V _ ∧ _›) b7; have zs := kB7.size))
            all_goals
              go_wp2_with fail
              go_meet
              have r7 : RowIs w7 (lessR (addL a N.1 o.1, addL a N.2 o.2) a N).1 (.agg #[.slice A11 n11 c11, .slice A12 n12 c12]) := ⟨_, _, _, _, _, _, rfl, q7, q8, l7, l8⟩
              first
              | exact ⟨_, rfl, rfl, Holds.set kg r7, (kB7.setCell zs _).setCell zs _⟩
              | exact ⟨_, rfl, rfl, Holds.new r7, bstep kB7 (balloc _ _)⟩
          case rest =>
            obtain ⟨g11, rfl, rfl, hH11, hB16⟩ := hcut
            have e : lessR (addL a N.1 o.1, addL a N.2 o.2) a N = (o, 0) := by
              have h5 := hlen.1
              have h6 := hlen.2
              simp [lessR, addL_length, h5, h6, less_back]
            rw [e] at hH11 ⊢
            obtain ⟨A15, n15, c15, A16, n16, c16, b11, r11⟩ := hH11
            have hM := less_lead (i := i) hlen.1 HHL.out HLL.out HN7.out
            have h0 := less_zero (i := i) hlen.1 HHL.out HLL.out HN7.out i (Nat.le_refl _)
            rw [Ha.out] at hM h0
            have hz := lead_zero (addL a N.1 o.1)
            go_upto_region 17 with fail
            replace bo := bo.below hB16 bo.lt
            replace b9 := b9.below hB16 b9.lt
            replace ro := ro.step hB16
            replace q9 := q9.step hB16
            replace hT := bstep hT hB16
            clear HS hB16 e
            generalize wc = V at *
            obtain ⟨k0, k1, k2, k3⟩ := cells22 bo b9 (Below.refl _ V)
            obtain ⟨k4, k5, _, _⟩ := cells2 b11
            go_wp2_with fail
            refine (c_same_self r11 ro).mono ?_
            rintro e w2 ⟨rfl, b2⟩
            have hb2 := b2
            clear k0 k1 k2 k3 k4 k5
            obtain ⟨k0, k1, k2, k3⟩ := cells22 bo b9 b2
            have q92 := q9.step b2
            have CL9 := lead_any (c := c13) q92 (by omega)
            have CZ9 := vzero_any (c := c13) q92 (by omega)
            have CA9 := at_in (c := c13) q92 (by omega) i i13
            rw [hz] at CZ9
            rw [h0, bv_0] at CA9
            generalize leadI (addL a N.1 o.1) = M at *
            clear hz h0
            by_cases hiM : (i : Int) < M
            · clear hM
              go_wp2_with fail
              refine CL9.mono ?_
              rintro e w' ⟨rfl, rfl⟩
              go_wp2_with fail
              refine CA9.mono ?_
              rintro e w' ⟨rfl, rfl⟩
              go_wp2_with fail
              go_ret
              exact ⟨rfl, bstep hT hb2⟩
            · have hM0 : M < 0 := by omega
              have t9 : decide (M < 0) = true := by simpa using hM0
              rw [t9] at CZ9
              clear hM t9
              go_wp2_with fail
              refine CL9.mono ?_
              rintro e w' ⟨rfl, rfl⟩
              go_wp2_with fail
              refine CZ9.mono ?_
              rintro e w' ⟨rfl, rfl⟩
              go_wp2_with fail
              refine CA9.mono ?_
              rintro e w' ⟨rfl, rfl⟩
              go_wp2_with fail
              go_ret
              exact ⟨rfl, bstep hT hb2⟩
        · have e : lessR o a N = (([], []), 4) := by simp [lessR, hlen]
          rw [e] at hH9 ⊢
          have hx : n1 ≠ n3 ∨ n2 ≠ n4 := by
            have h1 := HN1.out
            have h2 := HN2.out
            have h3 := e1.out
            have h4 := e2.out
            have h5 := e3.out
            have h6 := e4.out
            omega
          obtain ⟨k0, k1, k2, k3⟩ := cells22 bx by_ hB13
          clear hlen e hH9
          by_cases h13 : n1 = n3
          · have h24 : n2 ≠ n4 := by omega
            have t1 : ((n1 : Int) != (n3 : Int)) = false := by simp [h13]
            have t2 : ((n2 : Int) != (n4 : Int)) = true := by simp; omega
            clear h13 h24 hx
            go_wp2_with fail
            go_ret
            exact ⟨rfl, bstep hT hB13⟩
          · have t1 : ((n1 : Int) != (n3 : Int)) = true := by simp; omega
            clear h13 hx
            go_wp2_with fail
            go_ret
            exact ⟨rfl, bstep hT hB13⟩
    · have t0 : (leadI o.1 != L) = true := by simpa using hLL
      clear hLL
      go_wp2_with fail
      go_ret
      exact ⟨rfl, hT⟩
theorem leads_skip (A1 : Option Addr) (n1 c1 : Nat) (A2 : Option Addr) (n2 c2 : Nat) (A3 : Option Addr) (n3 c3 : Nat) (A4 : Option Addr) (n4 c4 : Nat) (w : World)
    (l1 : n1 ≤ 9223372036854775807) (l2 : n2 ≤ 9223372036854775807) (l3 : n3 ≤ 9223372036854775807) (l4 : n4 ≤ 9223372036854775807) (h : 100 < n1 ∨ 100 < n2 ∨ 100 < n3 ∨ 100 < n4) :
    Calls Try.prog 5 #[.agg #[.slice A1 n1 c1, .slice A2 n2 c2], .agg #[.slice A3 n3 c3, .slice A4 n4 c4]] w fun e w' => e = .returned (.bool true) ∧ Below w.heap.size w w' := by
  obtain ⟨hb0, bx, by_⟩ := two_alloc (w := w) (T := 33) (T2 := 33) (cs := #[.slice A1 n1 c1, .slice A2 n2 c2]) (cs2 := #[.slice A3 n3 c3, .slice A4 n4 c4])
  have C1 := fun w => few3_any (A := A1) (A2 := A2) (c := c1) (c2 := c2) (w := w) l1 l2
  have C2 := fun w => few3_any (A := A3) (A2 := A4) (c := c3) (c2 := c4) (w := w) l3 l4
  by_cases g : n1 ≤ 100 ∧ n2 ≤ 100
  · have e1 : (decide (n1 ≤ 100) && decide (n2 ≤ 100)) = true := by simp [g]
    have e2 : (decide (n3 ≤ 100) && decide (n4 ≤ 100)) = false := by simp; omega
    rw [e1] at C1
    rw [e2] at C2
    clear e1 e2 g h
    go_enter Try.func5, Try.ntmps5
    go_wp2_with fail
    refine (awake3 _).mono ?_
    rintro e w1 ⟨rfl, hB⟩
    generalize (w.alloc (.cells #[.slice A1 n1 c1, .slice A2 n2 c2] 33)).alloc (.cells #[.slice A3 n3 c3, .slice A4 n4 c4] 33) = W at *
    obtain ⟨k0, k1, k2, k3⟩ := cells22 bx by_ hB
    go_wp2_with fail
    refine (C1 _).mono ?_
    rintro e w2 ⟨rfl, b⟩
    replace hB := bstep hB b
    clear k0 k1 k2 k3 b
    obtain ⟨k0, k1, k2, k3⟩ := cells22 bx by_ hB
    go_wp2_with fail
    refine (C2 _).mono ?_
    rintro e w3 ⟨rfl, b⟩
    go_wp2_with fail
    go_ret
    exact ⟨rfl, bstep (bstep hb0 hB) b⟩
  · have e1 : (decide (n1 ≤ 100) && decide (n2 ≤ 100)) = false := by simp; omega
    rw [e1] at C1
    clear e1 g h
    go_enter Try.func5, Try.ntmps5
    go_wp2_with fail
    refine (awake3 _).mono ?_
    rintro e w1 ⟨rfl, hB⟩
    generalize (w.alloc (.cells #[.slice A1 n1 c1, .slice A2 n2 c2] 33)).alloc (.cells #[.slice A3 n3 c3, .slice A4 n4 c4] 33) = W at *
    obtain ⟨k0, k1, k2, k3⟩ := cells22 bx by_ hB
    go_wp2_with fail
    refine (C1 _).mono ?_
    rintro e w2 ⟨rfl, b⟩
    go_wp2_with fail
    go_ret
    exact ⟨rfl, bstep (bstep hb0 hB) b⟩
theorem leads_walk (A1 : Option Addr) (n1 c1 : Nat) (A2 : Option Addr) (n2 c2 : Nat) (us1 us2 : List UInt8) (A3 : Option Addr) (n3 c3 : Nat) (A4 : Option Addr) (n4 c4 : Nat) (us3 us4 : List UInt8) (w : World)
    (h1 : Rd w w.heap.size A1 n1 us1) (l1 : n1 ≤ c1 ∧ c1 ≤ maxLen) (h2 : Rd w w.heap.size A2 n2 us2) (l2 : n2 ≤ c2 ∧ c2 ≤ maxLen) (h3 : Rd w w.heap.size A3 n3 us3) (l3 : n3 ≤ c3 ∧ c3 ≤ maxLen) (h4 : Rd w w.heap.size A4 n4 us4) (l4 : n4 ≤ c4 ∧ c4 ≤ maxLen) :
    Calls Try.prog 5 #[.agg #[.slice A1 n1 c1, .slice A2 n2 c2], .agg #[.slice A3 n3 c3, .slice A4 n4 c4]] w fun e w' => e = .returned (.bool true) ∧ Below w.heap.size w w' := by
  unfold maxLen at l1 l2 l3 l4
  by_cases h : 100 < n1 ∨ 100 < n2 ∨ 100 < n3 ∨ 100 < n4
  · exact leads_skip A1 n1 c1 A2 n2 c2 A3 n3 c3 A4 n4 c4 w (by omega) (by omega) (by omega) (by omega) h
  · exact leads_main A1 n1 c1 A2 n2 c2 A3 n3 c3 A4 n4 c4 (us1, us2) (us3, us4) w h1 h2 h3 h4 (by omega) (by omega) (by omega) (by omega)


/-! ### The frame of 'VecLeads' -/
namespace vecLeads
theorem own : ownKnob Try.prog.godebug = none := by kernel_rfl
theorem laidOut : laidOutB Try.prog = true := by kernel_rfl
theorem lifted (os : Os) (started : os.Started) (H : Type) (enc : TypeId × Value → H) :
    ReturnsInHanded {} Try.checked os 5 .any (Rows.vecLeadsSpec.pre6 enc Try.prog Try.f5 Rows.vecLeadsRow.domain false) (Rows.vecLeadsSpec.post enc Try.prog Try.f5 false true false false) := by
  refine returnsInHanded_of_change (C := Try.checked) own started (by kernel_rfl) Try.func5
    (ChangeSpec.witness6 (enc := enc) (C := Try.checked) false ⟨#[], #[.agg #[.slice none 0 0, .slice none 0 0], .agg #[.slice none 0 0, .slice none 0 0]], []⟩ 8 (by kernel_rfl) (by kernel_rfl) (by kernel_rfl) (by kernel_rfl)) ?_
  intro W base args ds gs before hval0 hW hcnd _
  have hval : ∀ (j : Nat) t v, Try.f5.params[j]? = some t → args[j]? = some v → Value.okWide Try.prog W .any base t v := hval0
  have hW' := hW
  obtain ⟨p, q, hA0, hV, rfl, hfz, hnd⟩ := hW
  have hA : DataW.TrodAll enc Try.prog W 0 (fun _ => true) true Try.f5.params.toList args.toList ds p := hA0
  rw [Try.params5] at hA hval
  obtain ⟨v0, vs0, d0, ds0, p0, q0, hargs, rfl, rfl, h0, q0'⟩ := trodAll_cons hA
  obtain ⟨v1, vs1, d1, ds1, p1, q1, rfl, rfl, rfl, h1, q1'⟩ := trodAll_cons q0'
  obtain ⟨rfl, rfl, rfl⟩ := trodAll_nil q1'
  obtain rfl : args = #[v0, v1] := by cases args; simp_all
  obtain ⟨rfl, rfl⟩ := trodVars_none hV
  have k0 := h0
  have lt0 : ∀ x ∈ p0, x.block < W.heap.size := by obtain ⟨m, hm⟩ := k0; exact DataW.trod_lt m _ _ _ hm
  have k1 := h1
  have lt1 : ∀ x ∈ p1, x.block < W.heap.size := by obtain ⟨m, hm⟩ := k1; exact DataW.trod_lt m _ _ _ hm
  obtain ⟨va0, vb0, ya0, yb0, nf0, rfl, rfl, rfl, ta0, tb0⟩ := open_agg2 Try.underlying33 (by kernel_rfl) (by kernel_rfl) (hval 0 33 v0 rfl rfl) h0
  obtain ⟨A0, n0, c0, us0, rfl, r0, l0⟩ := bytes_cell Try.underlying22 Try.underlying5 (by kernel_rfl) ta0
  obtain ⟨B0, m0, d0, vs0, rfl, q0, s0⟩ := bytes_cell Try.underlying22 Try.underlying5 (by kernel_rfl) tb0
  obtain ⟨va1, vb1, ya1, yb1, nf1, rfl, rfl, rfl, ta1, tb1⟩ := open_agg2 Try.underlying33 (by kernel_rfl) (by kernel_rfl) (hval 1 33 v1 rfl rfl) h1
  obtain ⟨A1, n1, c1, us1, rfl, r1, l1⟩ := bytes_cell Try.underlying22 Try.underlying5 (by kernel_rfl) ta1
  obtain ⟨B1, m1, d1, vs1, rfl, q1, s1⟩ := bytes_cell Try.underlying22 Try.underlying5 (by kernel_rfl) tb1
  clear hA0 hval0
  refine (leads_walk A0 n0 c0 B0 m0 d0 us0 vs0 A1 n1 c1 B1 m1 d1 us1 vs1 W r0 l0 q0 s0 r1 l1 q1 s1).mono fun e W' ⟨he, bel⟩ => ?_
  subst he
  exact ⟨_, rfl, _, _, _, [], _, [], hW', trodAll_mk1 (shut_bool Try.underlying4 _), (trodAll_cons_mk (Below.trod laidOut (by kernel_rfl) (of_decide_eq_true (by kernel_rfl)) k0 bel lt0) (trodAll_cons_mk (Below.trod laidOut (by kernel_rfl) (of_decide_eq_true (by kernel_rfl)) k1 bel lt1) trodAll_mk0)), rfl, bel.frame _, fun h => by cases h⟩

theorem over : Rows.vecLeadsRow.holds Try.pinned (OpenSpec.ofChange Rows.vecLeadsSpec) :=
  OpenClaim.holds_of_wide 5 Try.f5 rfl rfl rfl rfl rfl rfl rfl ⟨rfl, rfl, rfl, rfl, rfl⟩ rfl rfl rfl rfl rfl (by kernel_rfl) Try.func5 (by kernel_rfl)
    (of_decide_eq_true (by kernel_rfl)) (by unfold Func.isWrapper; first | (rw [if_pos (by decide +kernel)]; kernel_rfl) | (rw [if_neg (by decide +kernel)]; exact ⟨rfl, rfl⟩))
    (fun os started H enc _ => lifted os started H enc)
/-- The statement. -/
theorem proved : Rows.VecLeadsSaid := over
end vecLeads
end Go.Proofs.Ytejnkohgecclbaa
