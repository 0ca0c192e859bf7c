import Derived.Test.YtaidbcppecoenaaR08A
/- The document's system: one equation more. -/
namespace Go.Proofs.Ytaidbcppecoenaa
open Go.RowKit
set_option linter.unusedVariables false
set_option maxRecDepth 100000

end Go.Proofs.Ytaidbcppecoenaa

/- The document's system: a symbol that is known. -/
namespace Go.Proofs.Ytaidbcppecoenaa
open Go.RowKit
set_option linter.unusedVariables false
set_option maxRecDepth 100000

def cntL (us : List UInt8) : Nat := (us.filter (· != 0)).length
def tells (i : Int) (r : RowL) : Bool := cntL r.1 == 1 && leadI r.1 == i
/-! ### Both ways to tell a symbol -/
end Go.Proofs.Ytaidbcppecoenaa

