import Derived.Test.YtheohcebiimdoaaRef12
import Derived.Test.YtheohcebiimdoaaL11A
/- The statements of layer 12: their example, and few. -/
namespace Go.Proofs.Ytheohcebiimdoaa
open Go.RowKit
set_option linter.unusedVariables false
set_option maxRecDepth 100000

theorem rows_529 : gfitC (5 : Nat) (2 : Nat) (3 : Nat) [[1, 2], [3, 4], [5, 9]] = 0 := by decide
theorem join_529 {w : World} {A : Option Addr} (h : Rds w w.heap.size A 3 [[1, 2], [3, 4], [5, 9]]) : Calls Try.prog 19 #[.agg #[.int .i64 5, .int .i64 2, .int .i64 3, .int .u32 0], .slice A 3 3] w (JoinEnds 5 [1, 2, 3, 4, 5] w) :=
  gjoin_ok (L := 5) (S := 2) (K := 3) (c := 3) (d := 0) h rows_529
theorem clean_529 {w : World} {A : Option Addr} (h : Rds w w.heap.size A 3 [[1, 2], [3, 4], [5, 9]]) (hc : Caps w w.heap.size A 3) : Calls Try.prog 21 #[.agg #[.int .i64 5, .int .i64 2, .int .i64 3, .int .u32 0], .slice A 3 3] w (GridEnds (.bool false) w) :=
  gclean_ok (L := 5) (S := 2) (K := 3) (c := 3) (d := 0) h hc rows_529
theorem lit_one5 (w : World) : Rd (w.alloc (.cells (bvs [1, 2, 3, 4, 5]).toArray 5)) (w.alloc (.cells (bvs [1, 2, 3, 4, 5]).toArray 5)).heap.size (some ⟨w.heap.size, 0, none⟩) 5 [1, 2, 3, 4, 5] ∧ Below w.heap.size w (w.alloc (.cells (bvs [1, 2, 3, 4, 5]).toArray 5)) := by
  have h := Blk.new w 5 (bvs [1, 2, 3, 4, 5]).toArray
  exact ⟨(Rd.of_blk h).more h.lt, balloc _ _⟩
set_option maxHeartbeats 600000 in
theorem awake12 (w : World) : Calls Try.prog 17 #[] w (GridEnds (.bool true) w) := by
  have C := pof_ok (l := 5) (s := 2) (d := 0) (w := w) (by omega) bounds_52
  rw [needs_52] at C
  have HL := Lib.hid lit_three
  unfold pv at C
  go_enter Try.func17, Try.ntmps17
  go_wp2_with fail
  with_reducible refine C.mono ?_
  rintro e w1 ⟨rfl, b1⟩
  clear C
  have hg := Blk.new w1 24 #[.int .i64 5, .int .i64 2, .int .i64 3, .int .u32 0]
  have hb := bstep b1 (balloc w1 (.cells #[.int .i64 5, .int .i64 2, .int .i64 3, .int .u32 0] 24))
  have hs : (w1.alloc (.cells #[.int .i64 5, .int .i64 2, .int .i64 3, .int .u32 0] 24)).heap.size = w1.heap.size + 1 := World.size_alloc _ _
  obtain ⟨hR, hcp, b4⟩ := HL.out (w1.alloc (.cells #[.int .i64 5, .int .i64 2, .int .i64 3, .int .u32 0] 24)) 1 2 3 4 5 9 _ rfl
  have hg2 := hg.below b4 hg.lt
  have hb2 := bstep hb b4
  rw [hs] at hR hcp hg2 hb2
  clear b4 hb hg b1 hs
  go_wp2_with fail
  refine (join_529 hR).mono ?_
  rintro e w2 ⟨g, rfl, hu, b5⟩
  have hg3 := hg2.below b5 hg2.lt
  have hb3 := bstep hb2 b5
  have hR3 := hR.step b5
  have hcp3 := hcp.step b5
  have hr := (Rd.of_blk hu).more hu.lt
  clear hg2 hb2 hR hcp b5 hu
  obtain ⟨a0, a1, a2, a3, _⟩ := cells4 hg3
  obtain ⟨hl, b6⟩ := lit_one5 w2
  have hg4 := hg3.below b6 hg3.lt
  have hb4 := bstep hb3 b6
  have hR4 := hR3.step b6
  have hcp4 := hcp3.step b6
  have hr4 := hr.step b6
  clear hg3 hb3 hR3 hcp3 b6 hr
  go_wp2_with fail
  refine (same_any hr4 hl (Nat.le_refl _) (Nat.le_refl _) (by simp)).mono ?_
  rintro e w3 ⟨rfl, b7⟩
  rw [beq_self_eq_true]
  have hg5 := hg4.below b7 hg4.lt
  have hb5 := bstep hb4 b7
  have hR5 := hR4.step b7
  have hcp5 := hcp4.step b7
  clear hg4 hb4 hR4 hcp4 b7 hr4 hl a0 a1 a2 a3
  obtain ⟨a0, a1, a2, a3, _⟩ := cells4 hg5
  go_wp2_with fail
  refine (clean_529 hR5 hcp5).mono ?_
  rintro e w4 ⟨rfl, b8⟩
  go_wp2_with fail
  go_ret
  exact ⟨rfl, bstep hb5 b8⟩
/-! ### few -/
theorem wrap_in (z : Int) : -9223372036854775808 ≤ wrap64 z ∧ wrap64 z ≤ 9223372036854775807 := by unfold wrap64; omega
def SomeBool (w : World) (e : Ending) (w' : World) : Prop := ∃ b : Bool, e = .returned (.bool b) ∧ Below w.heap.size w w'
set_option maxHeartbeats 600000 in
theorem few12_any {l s k d : Int} {A : Option Addr} {n c : Nat} {rows : List (List UInt8)} {w : World} (h : Rds w w.heap.size A n rows) (hn : n ≤ 9223372036854775807) (l2 : l ≤ 9223372036854775807) :
    Calls Try.prog 18 #[pv l s k d, .slice A n c] w (SomeBool w) := by
  have hb := balloc w (.cells #[.int .i64 l, .int .i64 s, .int .i64 k, .int .u32 d] 24)
  have hg := Blk.new w 24 #[.int .i64 l, .int .i64 s, .int .i64 k, .int .u32 d]
  have C := pcheck_any (l := l) (s := s) (k := k) (d := d) (w := w.alloc (.cells #[.int .i64 l, .int .i64 s, .int .i64 k, .int .u32 d] 24)) l2
  have hR := h.step hb
  unfold pv at *
  clear h
  go_enter Try.func18, Try.ntmps18
  go_wp2_with fail
  generalize w.alloc (.cells #[.int .i64 l, .int .i64 s, .int .i64 k, .int .u32 d] 24) = V at *
  go_loop [5, 10] (fun v i => ∃ (z : Int) (j : Nat), j ≤ n ∧ v = .int .i64 z ∧ -9223372036854775808 ≤ z ∧ z ≤ 9223372036854775807 ∧ i = .int .i64 j) (fun _ i => n - (intOf i).toNat)
  case atStart => exact ⟨0, 0, by omega, rfl, by omega, by omega, rfl⟩
  case round =>
    obtain ⟨z, j, hj, rfl, z1, z2, rfl⟩ := hrel
    by_cases hlt : j < n
    · obtain ⟨b, off, Ak, ck, rfl, _, hc, hrk⟩ := hR.at_ hlt
      generalize (rows[j]?.getD []).length = m at *
      obtain ⟨q1, q2⟩ := wrap_in (z + m)
      go_wp2_with fail
      go_round
      case rel => exact ⟨_, j + 1, by omega, rfl, q1, q2, by go_num⟩
      case measure => simp [intOf]; omega
    · obtain rfl : j = n := by omega
      obtain ⟨a0, a1, a2, a3, _⟩ := cells4 hg
      clear hlt
      by_cases h1 : z ≤ 4000
      · by_cases h2 : j ≤ 200
        · by_cases h3 : l ≤ 4000
          · go_wp2_with fail
            go_ret
            exact ⟨_, rfl, hb⟩
          · have h3' : 4000 < l := by omega
            clear h3
            go_wp2_with fail
            refine C.mono ?_
            rintro e w1 ⟨rfl, b1⟩
            go_wp2_with fail
            go_ret
            exact ⟨_, rfl, bstep hb b1⟩
        · have h2' : 200 < j := by omega
          clear h2
          go_wp2_with fail
          go_ret
          exact ⟨_, rfl, hb⟩
      · have h1' : 4000 < z := by omega
        clear h1
        go_wp2_with fail
        go_ret
        exact ⟨_, rfl, hb⟩
end Go.Proofs.Ytheohcebiimdoaa
