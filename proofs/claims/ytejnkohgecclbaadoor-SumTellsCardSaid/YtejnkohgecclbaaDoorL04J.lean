import Derived.Test.YtejnkohgecclbaaDoorL04I
import Derived.Test.YtejnkohgecclbaaDoorL04F
import Derived.Test.YtejnkohgecclbaaDoorCards
import Derived.SevenTiedAt
/- Proved: for every input SumTells returns true and leaves what it is handed as it was, and the table that it reads is what the program's own initialiser lays (the card). No condition. -/
namespace Go.Proofs.YtejnkohgecclbaaDoor
open Go.ChangeShapes Go.WideShapes Go.ChangeAt Go.RowKit
set_option linter.unusedVariables false
set_option maxRecDepth 100000
theorem tells4_skip (A : Option Addr) (N c : Nat) (rows : List (List UInt8)) (n : Int) (A3 : Option Addr) (n3 c3 : Nat) (w : World) (HT : HalvesAt w) (r : Rds w w.heap.size A N rows) (l : N ≤ 9223372036854775807) (l3 : n3 ≤ 9223372036854775807) (h : few4B rows = false ∨ 100 < n3) :
    Calls Tryd.prog 3 #[.slice A N c, .int .u32 n, .slice A3 n3 c3] w fun e w' => e = .returned (.bool true) ∧ Below w.heap.size w w' := by
  have C := awake4 w HT
  go_enter Tryd.func3, Tryd.ntmps3
  go_wp2_with fail
  refine C.mono ?_
  rintro e w1 ⟨rfl, hb⟩
  have F4 := few4_any (c := c) (r.step hb) l
  cases hf : few4B rows
  · rw [hf] at F4
    go_wp2_with fail
    refine F4.mono ?_
    rintro e w' ⟨rfl, rfl⟩
    go_wp2_with fail
    go_ret
    exact ⟨rfl, hb⟩
  · rw [hf] at F4 h
    have h3 : 100 < n3 := by simpa using h
    clear h
    go_wp2_with fail
    refine F4.mono ?_
    rintro e w' ⟨rfl, rfl⟩
    go_wp2_with fail
    go_ret
    exact ⟨rfl, hb⟩
theorem tells4_walk (A : Option Addr) (N c : Nat) (rows : List (List UInt8)) (z : Int) (A3 : Option Addr) (n3 c3 : Nat) (us3 : List UInt8) (w : World) (HT : HalvesAt w) (r : Rds w w.heap.size A N rows) (l : N ≤ c ∧ c ≤ maxLen) (w1 : (Lit.int .u32 z).wf = true) (r3 : Rd w w.heap.size A3 n3 us3) (l3 : n3 ≤ c3 ∧ c3 ≤ maxLen) :
    Calls Tryd.prog 3 #[.slice A N c, .int .u32 z, .slice A3 n3 c3] w fun e w' => e = .returned (.bool true) ∧ Below w.heap.size w w' := by
  have b1 := bounds_u32 w1
  unfold maxLen at l l3
  by_cases h : few4B rows = false ∨ 100 < n3
  · exact tells4_skip A N c rows z A3 n3 c3 w HT r (by omega) (by omega) h
  · have e : z = rv z.toNat := by unfold rv; omega
    rw [e]
    exact tells4_main A N c rows z.toNat A3 n3 c3 us3 w HT r (by simpa using (not_or.1 h).1) (by omega) r3 (by have := (not_or.1 h).2; omega)


/-! ### The frame of 'SumTells' -/
namespace sumTells
theorem own : ownKnob Tryd.prog.godebug = none := by kernel_rfl
theorem laidOut : laidOutB Tryd.prog = true := by kernel_rfl
theorem lifted (os : Os) (started : os.Started) (H : Type) (enc : TypeId × Value → H) :
    ReturnsInHanded {} Tryd.checked os 3 .any (fun w args => (Rows.sumTellsSpec.pre enc Tryd.prog Tryd.f3 [] false w args ∧ laidMetH Tryd.prog laid1 w) ∧ sizedMet enc Tryd.prog Tryd.f3 (OpenSpec.ofChange Rows.sumTellsSpec) false w args)
      (Rows.sumTellsSpec.post enc Tryd.prog Tryd.f3 false true false false) := by
  refine returnsInHanded_of_change_and (C := Tryd.checked) (X := fun w _ => laidMetH Tryd.prog laid1 w) (fun _ _ _ hh h => h.of_heap hh) own started (by kernel_rfl) Tryd.func3
    (ChangeSpec.witness_shaped (enc := enc) (C := Tryd.checked) (os := os) (X := fun w _ => laidMetH Tryd.prog laid1 w) false (World.doorLaid Tryd.prog 400 os) #[.slice none 0 0, .int .u32 0, .slice none 0 0] 8 rfl (World.shaped_of_RefB (by kernel_rfl) (by kernel_rfl)) (by kernel_rfl) (by kernel_rfl) (by kernel_rfl) (door_met os _)) ?_
  intro W base args ds gs before hval0 hW hcnd _ hL _
  have hval : ∀ (j : Nat) t v, Tryd.f3.params[j]? = some t → args[j]? = some v → Value.okWide Tryd.prog W .any base t v := hval0
  have hW' := hW
  obtain ⟨p, q, hA0, hV, rfl, hfz, hnd⟩ := hW
  have hA : DataW.TrodAll enc Tryd.prog W 0 (fun _ => true) true Tryd.f3.params.toList args.toList ds p := hA0
  rw [Tryd.params3] at hA hval
  obtain ⟨v0, vs0, d0, ds0, p0, q0, hargs, rfl, rfl, h0, q0'⟩ := trodAll_cons hA
  obtain ⟨v1, vs1, d1, ds1, p1, q1, rfl, rfl, rfl, h1, q1'⟩ := trodAll_cons q0'
  obtain ⟨v2, vs2, d2, ds2, p2, q2, rfl, rfl, rfl, h2, q2'⟩ := trodAll_cons q1'
  obtain ⟨rfl, rfl, rfl⟩ := trodAll_nil q2'
  obtain rfl : args = #[v0, v1, v2] := by cases args; simp_all
  obtain ⟨rfl, rfl⟩ := trodVars_none hV
  have k0 := h0
  have lt0 : ∀ x ∈ p0, x.block < W.heap.size := by obtain ⟨m, hm⟩ := k0; exact DataW.trod_lt m _ _ _ hm
  have k1 := h1
  have lt1 : ∀ x ∈ p1, x.block < W.heap.size := by obtain ⟨m, hm⟩ := k1; exact DataW.trod_lt m _ _ _ hm
  have k2 := h2
  have lt2 : ∀ x ∈ p2, x.block < W.heap.size := by obtain ⟨m, hm⟩ := k2; exact DataW.trod_lt m _ _ _ hm
  obtain ⟨A0, n0, c0, rfl⟩ := okWide_slice Tryd.underlying22 (hval 0 22 v0 rfl rfl)
  obtain ⟨us0, r0, l0⟩ := rows_arg Tryd.underlying22 Tryd.underlying24 Tryd.underlying5 (by kernel_rfl) (by kernel_rfl) h0
  obtain ⟨a1, rfl, rfl, rfl, w1⟩ := open_int Tryd.underlying23 (hval 1 23 v1 rfl rfl) h1
  obtain ⟨A2, n2, c2, rfl⟩ := okWide_slice Tryd.underlying24 (hval 2 24 v2 rfl rfl)
  obtain ⟨us2, r2, l2⟩ := bytes_arg Tryd.underlying24 Tryd.underlying5 (by kernel_rfl) h2
  clear hA0 hval0
  refine (tells4_walk A0 n0 c0 us0 a1 A2 n2 c2 us2 W (of_laid hL) r0 l0 w1 r2 l2).mono fun e W' ⟨he, bel⟩ => ?_
  subst he
  exact ⟨_, rfl, _, _, _, [], _, [], hW', trodAll_mk1 (shut_bool Tryd.underlying4 _), (trodAll_cons_mk (Below.trod laidOut (by kernel_rfl) (of_decide_eq_true (by kernel_rfl)) k0 bel lt0) (trodAll_cons_mk (Below.trod laidOut (by kernel_rfl) (of_decide_eq_true (by kernel_rfl)) k1 bel lt1) (trodAll_cons_mk (Below.trod laidOut (by kernel_rfl) (of_decide_eq_true (by kernel_rfl)) k2 bel lt2) trodAll_mk0))), rfl, bel.frame _, fun h => by cases h⟩

theorem over : Rows.sumTellsRow.holds Tryd.pinned (OpenSpec.ofChange Rows.sumTellsSpec) :=
  OpenClaim.holds_of_wide 3 Tryd.f3 rfl rfl rfl rfl rfl rfl rfl ⟨rfl, rfl, rfl, rfl, rfl⟩ rfl rfl rfl rfl rfl (by kernel_rfl) Tryd.func3 (by kernel_rfl)
    (of_decide_eq_true (by kernel_rfl)) (by unfold Func.isWrapper; first | (rw [if_pos (by decide +kernel)]; kernel_rfl) | (rw [if_neg (by decide +kernel)]; exact ⟨rfl, rfl⟩))
    (fun os started H enc _ => lifted os started H enc)
/-- The statement. -/
theorem proved : Rows.SumTellsSaid := over
end sumTells

namespace sumTells
/-- The tied card. -/
theorem card_proved : Rows.SumTellsCardSaid :=
  Claim7.holds_tied_plain_at .later [] [.data] true Rows.sumTellsCard.stood.harness false
    proved (fun _ h => by cases h) (by kernel_rfl) (fun _ h => by cases h) sumTells_row_tie rfl ⟨rfl, rfl⟩ (by kernel_rfl) rfl
    (fun f fn hf hfn => by
      obtain rfl : f = 3 := Option.some.inj ((show Tryd.prog.funcNamed "wellspring/wellspringlaw04.SumTells" = some 3 by kernel_rfl).symm.trans hf) |>.symm
      obtain rfl : fn = Tryd.f3 := (Option.some.inj (Tryd.func3.symm.trans hfn)).symm
      exact ⟨by kernel_rfl, fun j t ht => by
        rw [Tryd.params3] at ht
        have hm : t ∈ [22, 23, 24] := by simpa using Array.mem_of_getElem? ht
        have hall : ([22, 23, 24].all fun u => !Tryd.prog.wantsStandIn u) = true := by kernel_rfl
        exact (show Tryd.prog.wantsStandIn t = false by simpa using List.all_eq_true.1 hall t hm)⟩)
    (by kernel_rfl)
end sumTells
end Go.Proofs.YtejnkohgecclbaaDoor
