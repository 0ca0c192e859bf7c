import Derived.Test.YtaidbcppecoenaaGridD
/- Package elim: a nil system; New. -/
namespace Go.Proofs.Ytaidbcppecoenaa
open Go.RowKit
set_option linter.unusedVariables false
set_option maxRecDepth 100000

theorem enew_ok (k t : Nat) (w : World) (h1 : 1 ≤ k) (h2 : k ≤ 4096) (h3 : t ≤ 65535) : Calls Try.prog 27 #[.int .i64 (k : Int), .int .i64 (t : Int)] w fun e w' => ∃ g, e = .returned (.tuple #[.pointer (some ⟨g, 0, none⟩), .int .i64 0]) ∧ Blk w' g 99 #[.int .i64 (k : Int), .int .i64 (t : Int), .slice none 0 0] ∧ w.heap.size ≤ g ∧ Below w.heap.size w w' := by
  go_enter Try.func27, Try.ntmps27
  go_wp2_with fail
  go_ret2
  exact ⟨_, rfl, Blk.new _ _ _, Nat.le_refl _, by go_grown⟩
end Go.Proofs.Ytaidbcppecoenaa

