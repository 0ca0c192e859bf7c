import Derived.Test.YthfbgcjfnpajjaaDoorNatG
/- nat.Pow. -/
namespace Go.Proofs.YthfbgcjfnpajjaaDoor
open Go.RowKit
set_option linter.unusedVariables false
set_option maxRecDepth 100000

/-- What Pow gives, of m rounds. -/
def PowSays (N m : Nat) (n : Int) (w : World) (e : Ending) (w' : World) : Prop :=
  match opAll (fun s N => s * N) 1 (List.replicate m N) with
  | none => GivesErr 16 w e w'
  | some P => if n < 0 ∨ 65536 < n then GivesErr 2 w e w' else GivesPair P w e w'
theorem PowSays.long {N m : Nat} {n : Int} {w w' : World} {e : Ending} (h : opAll (fun s N => s * N) 1 (List.replicate m N) = none) (hg : GivesErr 16 w e w') : PowSays N m n w e w' := by
  unfold PowSays; rw [h]; exact hg
theorem PowSays.range {N m P : Nat} {n : Int} {w w' : World} {e : Ending} (h : opAll (fun s N => s * N) 1 (List.replicate m N) = some P) (hn : n < 0 ∨ 65536 < n) (hg : GivesErr 2 w e w') : PowSays N m n w e w' := by
  unfold PowSays; rw [h]; simp only [if_pos hn]; exact hg
theorem PowSays.ok {N m P : Nat} {n : Int} {w w' : World} {e : Ending} (h : opAll (fun s N => s * N) 1 (List.replicate m N) = some P) (hn : ¬ (n < 0 ∨ 65536 < n)) (hg : GivesPair P w e w') : PowSays N m n w e w' := by
  unfold PowSays; rw [h]; simp only [if_neg hn]; exact hg
end Go.Proofs.YthfbgcjfnpajjaaDoor
