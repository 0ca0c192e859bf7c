import Derived.Test.YtilelmejpbnbnaaGridD
/- Package elim: a nil system; New. -/
namespace Go.Proofs.Ytilelmejpbnbnaa
open Go.RowKit
set_option linter.unusedVariables false
set_option maxRecDepth 100000

theorem enil_size (w : World) : Calls Try.prog 28 #[.pointer none] w fun e w' => e = .returned (.tuple #[.int .i64 0, .int .i64 0]) ∧ w = w' := by
  go_enter Try.func28, Try.ntmps28
  go_wp2_with fail
  go_ret2
  exact ⟨rfl, rfl⟩
theorem enil_clone (w : World) : Calls Try.prog 29 #[.pointer none] w fun e w' => e = .returned (.pointer none) ∧ w = w' := by
  go_enter Try.func29, Try.ntmps29
  go_wp2_with fail
  go_ret
  exact ⟨rfl, rfl⟩
theorem enil_rank (w : World) : Calls Try.prog 41 #[.pointer none] w fun e w' => e = .returned (.int .i64 0) ∧ w = w' := by
  go_enter Try.func41, Try.ntmps41
  go_wp2_with fail
  go_ret
  exact ⟨rfl, rfl⟩
theorem enil_rows (w : World) : Calls Try.prog 43 #[.pointer none] w fun e w' => e = .returned (.slice none 0 0) ∧ w = w' := by
  go_enter Try.func43, Try.ntmps43
  go_wp2_with fail
  go_ret
  exact ⟨rfl, rfl⟩
theorem enil_known (i : Int) (w : World) : Calls Try.prog 39 #[.pointer none, .int .i64 i] w fun e w' => e = .returned (.tuple #[.slice none 0 0, .bool false]) ∧ w = w' := by
  go_enter Try.func39, Try.ntmps39
  go_wp2_with fail
  go_ret2
  exact ⟨rfl, rfl⟩
theorem enil_solve (w : World) : Calls Try.prog 46 #[.pointer none] w fun e w' => e = .returned (.tuple #[.slice none 0 0, .int .i64 1]) ∧ w = w' := by
  go_enter Try.func46, Try.ntmps46
  go_wp2_with fail
  go_ret2
  exact ⟨rfl, rfl⟩
theorem enil_rest (A A2 : Option Addr) (n c n2 c2 : Nat) (w : World) : Calls Try.prog 30 #[.pointer none, .agg #[.slice A n c, .slice A2 n2 c2]] w fun e w' => e = .returned (.tuple #[.agg #[.slice none 0 0, .slice none 0 0], .int .i64 1]) ∧ Below w.heap.size w w' := by
  obtain ⟨hb0, hx, hg⟩ := two_alloc (w := w) (T := 58) (T2 := 58) (cs := #[.slice A n c, .slice A2 n2 c2]) (cs2 := #[.slice none 0 0, .slice none 0 0])
  obtain ⟨hc0, hc1, hf0, hf1⟩ := cells2 hg
  go_enter Try.func30, Try.ntmps30
  go_wp2_with fail
  exact bodyPost_ret (v := .tuple #[.agg #[.slice none 0 0, .slice none 0 0], .int .i64 1]) (by simp [results, Try.results30, go_sem, hc0, hc1]) rfl ⟨rfl, hb0⟩
theorem enil_put (A A2 : Option Addr) (n c n2 c2 : Nat) (w : World) : Calls Try.prog 32 #[.pointer none, .agg #[.slice A n c, .slice A2 n2 c2]] w fun e w' => e = .returned (.tuple #[.int .i64 0, .int .i64 1]) ∧ Below w.heap.size w w' := by
  go_enter Try.func32, Try.ntmps32
  go_wp2_with fail
  refine (enil_rest _ _ _ _ _ _ _).mono ?_
  rintro e w1 ⟨rfl, b1⟩
  have hz := b1.size
  have b0 : Below w.heap.size w w1 := ((by go_grown : Below w.heap.size w (w.alloc (.cells #[Value.slice A n c, Value.slice A2 n2 c2] 58)))).trans (b1.mono (by simp))
  clear b1
  go_wp2_with fail
  go_ret2
  exact ⟨rfl, bstep b0 (balloc _ _)⟩
theorem enew_ok (k t : Nat) (w : World) (h1 : 1 ≤ k) (h2 : k ≤ 4096) (h3 : t ≤ 65535) : Calls Try.prog 27 #[.int .i64 (k : Int), .int .i64 (t : Int)] w fun e w' => ∃ g, e = .returned (.tuple #[.pointer (some ⟨g, 0, none⟩), .int .i64 0]) ∧ Blk w' g 99 #[.int .i64 (k : Int), .int .i64 (t : Int), .slice none 0 0] ∧ w.heap.size ≤ g ∧ Below w.heap.size w w' := by
  go_enter Try.func27, Try.ntmps27
  go_wp2_with fail
  go_ret2
  exact ⟨_, rfl, Blk.new _ _ _, Nat.le_refl _, by go_grown⟩
end Go.Proofs.Ytilelmejpbnbnaa
