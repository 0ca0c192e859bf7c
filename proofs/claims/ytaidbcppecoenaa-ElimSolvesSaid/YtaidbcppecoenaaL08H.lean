import Derived.Test.YtaidbcppecoenaaL08E
import Derived.Test.YtaidbcppecoenaaL08A
import Derived.Test.YtaidbcppecoenaaElimC
import Derived.Test.YtaidbcppecoenaaElimI
import Derived.Test.YtaidbcppecoenaaElimG
import Derived.Deep.DeepCutAuto
/- ElimPuts: its walk. -/
namespace Go.Proofs.Ytaidbcppecoenaa
open Go.RowKit
set_option linter.unusedVariables false
set_option maxRecDepth 100000

theorem OwnR.rlv {w : World} {B n c : Nat} {A : Option Addr} {L : List RowL} (h : OwnR w B (.slice A n c) L) : n = L.length ∧ RL w w.heap.size A n L := by
  obtain ⟨A', c', e, hr, _, _⟩ := h.rl
  injection e with e1 e2 e3
  subst e1 e2
  exact ⟨rfl, hr⟩
end Go.Proofs.Ytaidbcppecoenaa

