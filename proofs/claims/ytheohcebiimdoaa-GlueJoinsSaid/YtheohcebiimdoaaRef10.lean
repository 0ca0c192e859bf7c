import Derived.Test.YtheohcebiimdoaaPlan
/- The document's answer for plans: how many symbols, and the code. -/
namespace Go.Proofs.Ytheohcebiimdoaa
open Go.RowKit
set_option linter.unusedVariables false
set_option maxRecDepth 100000

theorem needs97_stop {l x s : Int} {j : Nat} (hs : 1 ≤ s) (hj : j ≤ 4096) (hx : x ≤ s) (h : needsN l s = j + needsN x s) : needs97 l s = (j : Int) + 1 := by
  rw [needs_one hs hx] at h
  unfold needs97
  rw [if_pos (by omega)]
  omega
theorem needs97_over {l x s : Int} {j : Nat} (hs : 1 ≤ s) (hj : 4097 ≤ j) (h : needsN l s = j + needsN x s) : needs97 l s = 4097 := by
  have := needs_pos (l := x) hs
  unfold needs97
  rw [if_neg (by omega)]
set_option maxHeartbeats 400000 in
theorem refneeds_any {l s : Int} {w : World} (l1 : 0 ≤ l) (l2 : l ≤ 9223372036854775807) (s1 : 1 ≤ s) (s2 : s ≤ 9223372036854775807) :
    Calls Try.prog 33 #[.int .i64 l, .int .i64 s] w fun e w' => e = .returned (.int .i64 (needs97 l s)) ∧ w = w' := by
  obtain ⟨r, hr⟩ : ∃ r, needs97 l s = r := ⟨_, rfl⟩
  have HR := Lib.hid hr
  rw [hr]
  clear hr
  go_enter Try.func33, Try.ntmps33
  go_wp2_with fail
  go_loop [0, 5] (fun v n => ∃ (x : Int) (j : Nat), j ≤ 4097 ∧ 0 ≤ x ∧ x ≤ 9223372036854775807 ∧ v = .int .i64 x ∧ n = .int .i64 (j : Int) ∧ (1 ≤ j → 1 ≤ x) ∧ Hid (needsN l s = j + needsN x s)) (fun _ n => 4097 - (intOf n).toNat)
  case atStart => exact ⟨l, 0, by omega, l1, l2, rfl, rfl, fun h => absurd h (by omega), Lib.hid (by simp)⟩
  case round =>
    clear l1 l2
    obtain ⟨x, j, hj, hx, hx2, rfl, rfl, hp, H⟩ := hrel
    by_cases c1 : j ≤ 4096
    · by_cases c2 : x ≤ s
      · have He := Lib.hid ((HR.out).symm.trans (needs97_stop s1 c1 c2 H.out))
        by_cases c0 : j = 0
        · subst c0
          clear hp
          go_wp2_with fail
          go_ret
          exact ⟨ret_int (by rw [He.out]; rfl), rfl⟩
        · have hx1 := hp (by omega)
          have t : ((j : Int) == 0) = false := by rw [beq_eq_false_iff_ne]; omega
          clear c0 hp
          go_wp2_with fail
          go_ret
          exact ⟨ret_int (by rw [He.out]), rfl⟩
      · have c3 : s < x := by omega
        have Hn := Lib.hid (show needsN l s = ((j + 1 : Nat) : Int) + needsN (x - s) s by rw [H.out, needs_more s1 c3]; omega)
        clear c2
        by_cases c0 : j = 0
        · subst c0
          clear hp
          go_wp2_with fail
          go_round
          case rel => exact ⟨x - s, 1, by omega, by omega, by omega, rfl, by go_num, fun _ => by omega, Hn⟩
          case measure => simp [intOf]
        · have hx1 := hp (by omega)
          have t : ((j : Int) == 0) = false := by rw [beq_eq_false_iff_ne]; omega
          clear c0 hp
          go_wp2_with fail
          go_round
          case rel => exact ⟨x - s, j + 1, by omega, by omega, by omega, rfl, by go_num, fun _ => by omega, Hn⟩
          case measure => simp [intOf]; omega
    · have He := Lib.hid ((HR.out).symm.trans (needs97_over s1 (by omega) H.out))
      have c3 : 4096 < j := by omega
      clear c1 hp
      go_wp2_with fail
      go_ret
      exact ⟨ret_int (by rw [He.out]), rfl⟩
set_option maxHeartbeats 400000 in
theorem refcheck_any {l s k d : Int} {w : World} (l2 : l ≤ 9223372036854775807) :
    Calls Try.prog 25 #[pv l s k d] w (GridEnds (.int .i64 (codeC l s k)) w) := by
  have hb := balloc w (.cells #[.int .i64 l, .int .i64 s, .int .i64 k, .int .u32 d] 33)
  have hg := Blk.new w 33 #[.int .i64 l, .int .i64 s, .int .i64 k, .int .u32 d]
  unfold pv at *
  by_cases c1 : l < 0
  · have e : codeC l s k = 2 := by rw [code_bounds] <;> simp [boundsC, c1]
    rw [e]
    clear e
    go_enter Try.func25, Try.ntmps25
    go_wp2_with fail
    go_ret
    exact ⟨rfl, hb⟩
  · have d1 : 0 ≤ l := by omega
    by_cases c2 : s < 1
    · have e : codeC l s k = 4 := by rw [code_bounds] <;> simp [boundsC, c1, c2]
      rw [e]
      clear e c1
      go_enter Try.func25, Try.ntmps25
      go_wp2_with fail
      go_ret
      exact ⟨rfl, hb⟩
    · have d2 : 1 ≤ s := by omega
      by_cases c3 : 65535 < s
      · have e : codeC l s k = 4 := by rw [code_bounds] <;> simp [boundsC, c1, c3]
        rw [e]
        clear e c1 c2
        go_enter Try.func25, Try.ntmps25
        go_wp2_with fail
        go_ret
        exact ⟨rfl, hb⟩
      · have d3 : s ≤ 65535 := by omega
        have C := Lib.hid fun w => refneeds_any (w := w) d1 l2 d2 (by omega)
        by_cases c4 : 4096 < needsN l s
        · have e : codeC l s k = 5 := by rw [code_bounds] <;> simp [boundsC, c1, c2, c3, c4]
          have d4 := needs97_gt.2 c4
          rw [e]
          clear e c1 c2 c3 c4
          generalize needs97 l s = n at *
          go_enter Try.func25, Try.ntmps25
          go_wp2_with fail
          refine (C.out _).mono ?_
          rintro e w' ⟨rfl, rfl⟩
          go_wp2_with fail
          go_ret
          exact ⟨rfl, hb⟩
        · have c5 : boundsC l s = 0 := by simp [boundsC, c1, c2, c3, c4]
          have e : codeC l s k = if k = needsN l s then 0 else 14 := by simp [codeC, c5]
          have d4 : needsN l s ≤ 4096 := by omega
          rw [needs97_eq d4] at C
          rw [e]
          clear e c1 c2 c3 c4 c5
          generalize needsN l s = n at *
          obtain ⟨a0, a1, a2, a3, _⟩ := cells4 hg
          by_cases c6 : k = n
          · have t : (k != n) = false := by rw [c6]; simp
            rw [if_pos c6]
            clear c6
            go_enter Try.func25, Try.ntmps25
            go_wp2_with fail
            refine (C.out _).mono ?_
            rintro e w' ⟨rfl, rfl⟩
            go_wp2_with fail
            go_quiet ((go_at_call 33; exact Calls.quiet_of_same ((C.out _).mono fun e w' h => ⟨h.1, h.2.symm⟩)))
            go_wp2_with fail
            go_ret
            exact ⟨rfl, below_drewN hb _⟩
          · have t : (k != n) = true := by rw [bne_iff_ne]; exact c6
            rw [if_neg c6]
            clear c6
            go_enter Try.func25, Try.ntmps25
            go_wp2_with fail
            refine (C.out _).mono ?_
            rintro e w' ⟨rfl, rfl⟩
            go_wp2_with fail
            go_quiet ((go_at_call 33; exact Calls.quiet_of_same ((C.out _).mono fun e w' h => ⟨h.1, h.2.symm⟩)))
            go_wp2_with fail
            go_ret
            exact ⟨rfl, below_drewN hb _⟩
end Go.Proofs.Ytheohcebiimdoaa
