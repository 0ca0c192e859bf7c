import Derived.Test.YtheohcebiimdoaaCut
/- Contracts of package cut: Symbol, Spread. -/
namespace Go.Proofs.Ytheohcebiimdoaa
open Go.RowKit
set_option linter.unusedVariables false
set_option maxRecDepth 100000

/-! ### Spread -/
theorem cspread_out {l s k d i : Int} {w : World} (l2 : l ≤ 9223372036854775807) (h : codeC l s k = 0) (hi : i < 0 ∨ l ≤ i) :
    Calls Try.prog 16 #[pv l s k d, .int .i64 i] w (GridEnds (.tuple #[.int .i64 0, .int .i64 0, .int .i64 2]) w) := by
  have hb := balloc w (.cells #[.int .i64 l, .int .i64 s, .int .i64 k, .int .u32 d] 24)
  have hg := Blk.new w 24 #[.int .i64 l, .int .i64 s, .int .i64 k, .int .u32 d]
  have C := pcheck_any (l := l) (s := s) (k := k) (d := d) (w := w.alloc (.cells #[.int .i64 l, .int .i64 s, .int .i64 k, .int .u32 d] 24)) l2
  rw [h] at C
  unfold pv at *
  clear h
  by_cases h0 : i < 0
  · clear hi
    go_enter Try.func16, Try.ntmps16
    go_wp2_with fail
    with_reducible refine C.mono ?_
    rintro e w1 ⟨rfl, b1⟩
    clear C
    go_wp2_with fail
    go_ret3
    exact ⟨rfl, bstep hb b1⟩
  · have h1 : 0 ≤ i := by omega
    have h2 : l ≤ i := by omega
    clear hi h0
    go_enter Try.func16, Try.ntmps16
    go_wp2_with fail
    with_reducible refine C.mono ?_
    rintro e w1 ⟨rfl, b1⟩
    obtain ⟨a0, a1, a2, a3, _⟩ := cells4 (hg.below b1 hg.lt)
    clear C
    go_wp2_with fail
    go_ret3
    exact ⟨rfl, bstep hb b1⟩
theorem cspread_ok {L S K i : Nat} {d : Int} {w : World} (h : codeC L S K = 0) (l2 : L ≤ 9223372036854775807) (hi : i < L) (hS : 1 ≤ S) :
    Calls Try.prog 16 #[pv L S K d, .int .i64 (i : Int)] w (GridEnds (.tuple #[.int .i64 ((i / S : Nat) : Int), .int .i64 ((i % S : Nat) : Int), .int .i64 0]) w) := by
  have hb := balloc w (.cells #[.int .i64 L, .int .i64 S, .int .i64 K, .int .u32 d] 24)
  have hg := Blk.new w 24 #[.int .i64 L, .int .i64 S, .int .i64 K, .int .u32 d]
  have C := pcheck_any (l := L) (s := S) (k := K) (d := d) (w := w.alloc (.cells #[.int .i64 L, .int .i64 S, .int .i64 K, .int .u32 d] 24)) (by omega)
  rw [h] at C
  unfold pv at C ⊢
  have t : decide ((L : Int) ≤ (i : Int)) = false := by simp; omega
  have e1 : ((i / S : Nat) : Int) = (i : Int) / (S : Int) := by simp
  have e2 : ((i % S : Nat) : Int) = (i : Int) % (S : Int) := by simp
  have s1 : (1 : Int) ≤ (S : Int) := by omega
  have s0 : ((S : Int) == 0) = false := by rw [beq_eq_false_iff_ne]; omega
  have HQ : Hid (wrap64 ((i : Int) / (S : Int)) = (i : Int) / (S : Int)) := Lib.hid (by
    have h1 : i / S ≤ i := Nat.div_le_self _ _
    rw [← e1]
    generalize i / S = q at *
    exact IntWalk.wrap64_in _ ⟨by omega, by omega⟩)
  rw [e1, e2]
  clear h e1 e2
  go_enter Try.func16, Try.ntmps16
  go_wp2_with fail
  with_reducible refine C.mono ?_
  rintro e w1 ⟨rfl, b1⟩
  replace hg := hg.below b1 hg.lt
  replace hb := bstep hb b1
  obtain ⟨a0, a1, a2, a3, _⟩ := cells4 hg
  clear C b1
  go_wp2_with fail
  go_quiet (fail)
  go_wp2_with fail
  go_ret3
  exact ⟨congrArg (fun q => Ending.returned (.tuple #[.int .i64 q, .int .i64 ((i : Int) % (S : Int)), .int .i64 0])) HQ.out, below_drewN hb _⟩
end Go.Proofs.Ytheohcebiimdoaa
