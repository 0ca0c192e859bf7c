import Derived.Test.YtaidbcppecoenaaGridF
import Derived.Test.YtaidbcppecoenaaGridI
import Derived.Test.YtaidbcppecoenaaWas
import Derived.StillTailTactics
import Derived.Test.YtaidbcppecoenaaCaps
import Derived.Deep.DeepCutAuto
import Derived.Test.YtaidbcppecoenaaR07E
import Derived.Test.YtaidbcppecoenaaSysM
/- What the two laws of grids lean on: products byte by byte, inverses from both sides, ranks. -/
namespace Go.Proofs.Ytaidbcppecoenaa
open Go.RowKit
set_option linter.unusedVariables false
set_option maxRecDepth 100000

/-- A list of rows as a function. -/
def mt (a : List (List UInt8)) : Nat → Nat → UInt8 := fun i j => fn (a[i]?.getD []) j
theorem fn_combTo {cs : List UInt8} {b : List (List UInt8)} {p : Nat} (hb : lenB p b = true) : ∀ K, K ≤ b.length → fn (combTo cs b (nulls p) K) = fun j => xs (fun k => gm (fn cs k) (mt b k j)) K := by
  intro K
  induction K with
  | zero => intro _; exact fn_nulls p
  | succ K ih =>
    intro hK
    show fn (addL (cs[K]?.getD 0) (b[K]?.getD []) (combTo cs b (nulls p) K)) = _
    rw [fn_addL (by rw [combTo_length, lenB_get hb (by omega)]; simp [nulls]), ih (by omega)]
    funext j
    rfl
end Go.Proofs.Ytaidbcppecoenaa

