import Derived.Test.YtaidbcppecoenaaR07D
import Derived.Deep.RegionWith
import Derived.Deep.QuietTactic
import Derived.BigQuiet
/- The document's Insert. -/
namespace Go.Proofs.Ytaidbcppecoenaa
open Go.RowKit
set_option linter.unusedVariables false
set_option maxRecDepth 100000

theorem WasR.alloc {wx w : World} {B : Nat} {v : Value} {L : List RowL} (h : WasR wx w B v L) (obj : Obj) : WasR wx (w.alloc obj) B v L := by
  obtain ⟨xs, h1, h2⟩ := h
  exact ⟨xs, h1.alloc _, h2⟩
end Go.Proofs.Ytaidbcppecoenaa

