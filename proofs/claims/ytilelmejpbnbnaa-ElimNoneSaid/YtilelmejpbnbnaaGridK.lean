import Derived.Test.YtilelmejpbnbnaaGridJ
import Derived.StillTailTactics
/- carried: its walk. -/
namespace Go.Proofs.Ytilelmejpbnbnaa
open Go.RowKit
set_option linter.unusedVariables false
set_option maxRecDepth 100000

def Kept (n L : Nat) (st : Nat → Option RowL) (f : Nat → Option (List UInt8)) : Prop := ∀ i, L ≤ i → i < n → f i = (st i).map Prod.snd
theorem Kept.upd {n L k : Nat} {st : Nat → Option RowL} {f : Nat → Option (List UInt8)} {r : RowL} (h : Kept n L st f) (hk : k < L) : Kept n L (upd st k r) f := fun i h1 h2 => by
  rw [h i h1 h2]
  unfold Go.Proofs.Ytilelmejpbnbnaa.upd
  rw [if_neg (by omega)]
theorem Kept.put {n l : Nat} {st : Nat → Option RowL} {f : Nat → Option (List UInt8)} {r : RowL} (h : Kept n (l + 1) st f) (hr : st l = some r) : Kept n l st (updF f l r.2) := fun i h1 h2 => by
  unfold updF
  by_cases hil : i = l
  · subst hil; rw [if_pos rfl, hr]; rfl
  · rw [if_neg hil, h i (by omega) h2]
end Go.Proofs.Ytilelmejpbnbnaa
