import Derived.Test.YtilelmejpbnbnaaL08A
/- ElimNone's walk. -/
namespace Go.Proofs.Ytilelmejpbnbnaa
open Go.RowKit
set_option linter.unusedVariables false
set_option maxRecDepth 100000

set_option maxHeartbeats 1000000 in
theorem elim_none (w : World) : Calls Try.prog 7 #[] w fun e w' => e = .returned (.bool true) ∧ Below w.heap.size w w' := by
  have CA := Lib.hid fun w => awake8 w
  go_enter Try.func7, Try.ntmps7
  go_wp2_with fail
  refine (enil_put none none 0 0 0 0 w).mono ?_
  rintro e w1 ⟨rfl, b1⟩
  go_wp2_with fail
  refine (enil_rest none none 0 0 0 0 w1).mono ?_
  rintro e w2 ⟨rfl, b2⟩
  have b3 := bstep b1 b2
  clear b1 b2
  replace b3 := bstep b3 (balloc w2 (.cells #[.slice none 0 0, .slice none 0 0] 58))
  go_wp2_with fail
  generalize w2.alloc (.cells #[.slice none 0 0, .slice none 0 0] 58) = V at *
  refine (enil_known 0 V).mono ?_
  rintro e w' ⟨rfl, rfl⟩
  go_wp2_with fail
  refine (enil_solve V).mono ?_
  rintro e w' ⟨rfl, rfl⟩
  go_wp2_with fail
  refine (enil_size V).mono ?_
  rintro e w' ⟨rfl, rfl⟩
  go_wp2_with fail
  refine (CA.out V).mono ?_
  rintro e w4 ⟨rfl, b4⟩
  replace b3 := bstep b3 b4
  clear b4 CA
  go_wp2_with fail
  refine (enil_rank w4).mono ?_
  rintro e w' ⟨rfl, rfl⟩
  go_wp2_with fail
  refine (enil_rows w4).mono ?_
  rintro e w' ⟨rfl, rfl⟩
  go_wp2_with fail
  refine (enil_clone w4).mono ?_
  rintro e w' ⟨rfl, rfl⟩
  go_wp2_with fail
  go_ret
  exact ⟨rfl, b3⟩
end Go.Proofs.Ytilelmejpbnbnaa
