/-
  No cell of these rows narrows 'for every input' (looked for: loops, veiled, ifaces, maps, wideKeys, modest, calm, conditions, laid).
  DERIVED. THE GIVEN ROWS OF THIS SEAT. 7 by the template 'for every input the law returns true; each argument reads behind the call as it read before'; 0 by the template 'total and deterministic' (their statements: YtghmaaeglejmbaaTotals.lean).
  GIVEN WITH THE SEED: the statements are not yours to turn. If you find one false, say at which input.
  Laid BY PROGRAM, IN A SANDBOX (cutbox-rows.mjs): the forced cells as the released guide's own fill.sh prints them over the translation 6b7e51478bad841e… (all of the seat's roots in one cut). By AI agents, Wed Nov 11 2026. No macro, syntax, notation, axiom, sorry.
-/
import Derived.Test.YtghmaaeglejmbaaChecked
import GoSem.Claim
import GoSem.ClaimJoined
import GoSem.ClaimMapViews
import Derived.JoinedTies
import Derived.KernelRfl
namespace Go.Proofs.Ytghmaaeglejmbaa
/- THE CELL 'sum', in the pinned program and in every row, IS THE sha256 OF THE DUMP (.gsa) THAT YtghmaaeglejmbaaProg.lean LOADS. Nothing in Lean hashes anything: it is a label: what it is worth is what the hold of that sum in a sandbox is worth. -/
noncomputable def Try.pinned : Pinned := { name := "ytghmaaeglejmbaa", sum := "6b7e51478bad841e78fd496413595c28e7533e7b2144ad4b041472d024dea61c", checked := Try.checked }
namespace Rows
def none {H : Type} : Left H := { results := [], args := [] }

/-- 'wellspringlaw01.FieldReckons': WHATEVER THE INPUT: true; the input reads as it did. -/
def fieldReckonsSpec : ChangeSpec := { name := "fieldReckons", fn := fun _ => fun
  | [d] => { results := [.lit (.bool true)], args := [d] }
  | _ => none }
def fieldReckonsRow : OpenClaim := { program := "ytghmaaeglejmbaa", sum := "6b7e51478bad841e78fd496413595c28e7533e7b2144ad4b041472d024dea61c", func := "wellspring/wellspringlaw01.FieldReckons", spec := "fieldReckons", apart := false }
def FieldReckonsSaid : Prop := fieldReckonsRow.holds Try.pinned (OpenSpec.ofChange fieldReckonsSpec)

/-- ITS FALSE NEIGHBOUR: 'it returns false'. Refute it at one input. -/
def fieldReckonsWrong : ChangeSpec := { name := "fieldReckons", fn := fun _ => fun
  | [d] => { results := [.lit (.bool false)], args := [d] }
  | _ => none }
def FieldReckonsWrongFalsely : Prop := fieldReckonsRow.holds Try.pinned (OpenSpec.ofChange fieldReckonsWrong)

/-- 'wellspringlaw01.FieldDivides': WHATEVER THE INPUT: true; the input reads as it did. -/
def fieldDividesSpec : ChangeSpec := { name := "fieldDivides", fn := fun _ => fun
  | [d1, d2, d3] => { results := [.lit (.bool true)], args := [d1, d2, d3] }
  | _ => none }
def fieldDividesRow : OpenClaim := { program := "ytghmaaeglejmbaa", sum := "6b7e51478bad841e78fd496413595c28e7533e7b2144ad4b041472d024dea61c", func := "wellspring/wellspringlaw01.FieldDivides", spec := "fieldDivides", apart := false }
def FieldDividesSaid : Prop := fieldDividesRow.holds Try.pinned (OpenSpec.ofChange fieldDividesSpec)

/-- ITS FALSE NEIGHBOUR: 'it returns false'. Refute it at one input. -/
def fieldDividesWrong : ChangeSpec := { name := "fieldDivides", fn := fun _ => fun
  | [d1, d2, d3] => { results := [.lit (.bool false)], args := [d1, d2, d3] }
  | _ => none }
def FieldDividesWrongFalsely : Prop := fieldDividesRow.holds Try.pinned (OpenSpec.ofChange fieldDividesWrong)

/-- 'wellspringlaw01.FieldPowers': WHATEVER THE INPUT: true; the input reads as it did. -/
def fieldPowersSpec : ChangeSpec := { name := "fieldPowers", fn := fun _ => fun
  | [d1, d2] => { results := [.lit (.bool true)], args := [d1, d2] }
  | _ => none }
def fieldPowersRow : OpenClaim := { program := "ytghmaaeglejmbaa", sum := "6b7e51478bad841e78fd496413595c28e7533e7b2144ad4b041472d024dea61c", func := "wellspring/wellspringlaw01.FieldPowers", spec := "fieldPowers", apart := false }
def FieldPowersSaid : Prop := fieldPowersRow.holds Try.pinned (OpenSpec.ofChange fieldPowersSpec)

/-- ITS FALSE NEIGHBOUR: 'it returns false'. Refute it at one input. -/
def fieldPowersWrong : ChangeSpec := { name := "fieldPowers", fn := fun _ => fun
  | [d1, d2] => { results := [.lit (.bool false)], args := [d1, d2] }
  | _ => none }
def FieldPowersWrongFalsely : Prop := fieldPowersRow.holds Try.pinned (OpenSpec.ofChange fieldPowersWrong)

/-- 'wellspringlaw01.FieldLaws': WHATEVER THE INPUT: true; the input reads as it did. -/
def fieldLawsSpec : ChangeSpec := { name := "fieldLaws", fn := fun _ => fun
  | [d1, d2, d3] => { results := [.lit (.bool true)], args := [d1, d2, d3] }
  | _ => none }
def fieldLawsRow : OpenClaim := { program := "ytghmaaeglejmbaa", sum := "6b7e51478bad841e78fd496413595c28e7533e7b2144ad4b041472d024dea61c", func := "wellspring/wellspringlaw01.FieldLaws", spec := "fieldLaws", apart := false }
def FieldLawsSaid : Prop := fieldLawsRow.holds Try.pinned (OpenSpec.ofChange fieldLawsSpec)

/-- ITS FALSE NEIGHBOUR: 'it returns false'. Refute it at one input. -/
def fieldLawsWrong : ChangeSpec := { name := "fieldLaws", fn := fun _ => fun
  | [d1, d2, d3] => { results := [.lit (.bool false)], args := [d1, d2, d3] }
  | _ => none }
def FieldLawsWrongFalsely : Prop := fieldLawsRow.holds Try.pinned (OpenSpec.ofChange fieldLawsWrong)

/-- 'wellspringlaw02.KernReckons': WHATEVER THE INPUT: true; the input reads as it did. -/
def kernReckonsSpec : ChangeSpec := { name := "kernReckons", fn := fun _ => fun
  | [d1, d2, d3] => { results := [.lit (.bool true)], args := [d1, d2, d3] }
  | _ => none }
def kernReckonsRow : OpenClaim := { program := "ytghmaaeglejmbaa", sum := "6b7e51478bad841e78fd496413595c28e7533e7b2144ad4b041472d024dea61c", func := "wellspring/wellspringlaw02.KernReckons", spec := "kernReckons", unfollowed := true, recurses := true, apart := false }
def KernReckonsSaid : Prop := kernReckonsRow.holds Try.pinned (OpenSpec.ofChange kernReckonsSpec)

/-- ITS FALSE NEIGHBOUR: 'it returns false'. Refute it at one input. -/
def kernReckonsWrong : ChangeSpec := { name := "kernReckons", fn := fun _ => fun
  | [d1, d2, d3] => { results := [.lit (.bool false)], args := [d1, d2, d3] }
  | _ => none }
def KernReckonsWrongFalsely : Prop := kernReckonsRow.holds Try.pinned (OpenSpec.ofChange kernReckonsWrong)

/-- 'wellspringlaw02.KernPairs': WHATEVER THE INPUT: true; the input reads as it did. -/
def kernPairsSpec : ChangeSpec := { name := "kernPairs", fn := fun _ => fun
  | [d1, d2, d3] => { results := [.lit (.bool true)], args := [d1, d2, d3] }
  | _ => none }
def kernPairsRow : OpenClaim := { program := "ytghmaaeglejmbaa", sum := "6b7e51478bad841e78fd496413595c28e7533e7b2144ad4b041472d024dea61c", func := "wellspring/wellspringlaw02.KernPairs", spec := "kernPairs", apart := false }
def KernPairsSaid : Prop := kernPairsRow.holds Try.pinned (OpenSpec.ofChange kernPairsSpec)

/-- ITS FALSE NEIGHBOUR: 'it returns false'. Refute it at one input. -/
def kernPairsWrong : ChangeSpec := { name := "kernPairs", fn := fun _ => fun
  | [d1, d2, d3] => { results := [.lit (.bool false)], args := [d1, d2, d3] }
  | _ => none }
def KernPairsWrongFalsely : Prop := kernPairsRow.holds Try.pinned (OpenSpec.ofChange kernPairsWrong)

/-- 'wellspringlaw02.KernLinear': WHATEVER THE INPUT: true; the input reads as it did. -/
def kernLinearSpec : ChangeSpec := { name := "kernLinear", fn := fun _ => fun
  | [d1, d2, d3, d4] => { results := [.lit (.bool true)], args := [d1, d2, d3, d4] }
  | _ => none }
def kernLinearRow : OpenClaim := { program := "ytghmaaeglejmbaa", sum := "6b7e51478bad841e78fd496413595c28e7533e7b2144ad4b041472d024dea61c", func := "wellspring/wellspringlaw02.KernLinear", spec := "kernLinear", unfollowed := true, recurses := true, apart := false }
def KernLinearSaid : Prop := kernLinearRow.holds Try.pinned (OpenSpec.ofChange kernLinearSpec)

/-- ITS FALSE NEIGHBOUR: 'it returns false'. Refute it at one input. -/
def kernLinearWrong : ChangeSpec := { name := "kernLinear", fn := fun _ => fun
  | [d1, d2, d3, d4] => { results := [.lit (.bool false)], args := [d1, d2, d3, d4] }
  | _ => none }
def KernLinearWrongFalsely : Prop := kernLinearRow.holds Try.pinned (OpenSpec.ofChange kernLinearWrong)

/- THE SECOND FORM. 'bulk': how many values and letters a reading holds, each counted each time it is reached (what is shared counts as often as it is met; a slice's spare places count too). A statement '..UptoSaid' is the law's where the arguments, and the package variables that the reading takes, are together of bulk at most 1048576: NARROWER than '..Said'. Prove '..Said' where nothing that the law and all that it calls make is longer than what came in: it says more and counts as full. Else prove '..UptoSaid'. A law counts once. -/
mutual
def uptoBulk {H : Type} : DataW H → Nat
  | .lit (.string bytes) => bytes.length + 1
  | .lit _ => 1
  | .nil => 1
  | .ptr d => uptoBulk d + 1
  | .slice elems spare => uptoBulkAll elems + uptoBulkAll spare + 1
  | .agg parts => uptoBulkAll parts + 1
  | .iface _ d => uptoBulk d + 1
  | .map entries => uptoBulkEntries entries + 1
  | .held _ => 1
def uptoBulkAll {H : Type} : List (DataW H) → Nat
  | [] => 0
  | d :: r => uptoBulk d + uptoBulkAll r
def uptoBulkEntries {H : Type} : List (Lit × DataW H) → Nat
  | [] => 0
  | x :: r => uptoBulkEntry x + uptoBulkEntries r
def uptoBulkEntry {H : Type} : Lit × DataW H → Nat
  | (.string bytes, d) => bytes.length + uptoBulk d + 1
  | (_, d) => uptoBulk d + 1
 end
def uptoSmall : (H : Type) → List (DataW H) → Bool := fun _ ds => decide (uptoBulkAll ds ≤ 1048576)
def OpenSpec.upto (s : _root_.Go.ChangeSpec) : _root_.Go.OpenSpec := { _root_.Go.OpenSpec.ofChange s with cond := some uptoSmall }

/-- 'wellspringlaw01.FieldReckons', WHERE WHAT IT READS IS OF BULK AT MOST 1048576: true; the input reads as it did. -/
def fieldReckonsUptoRow : OpenClaim := { program := "ytghmaaeglejmbaa", sum := "6b7e51478bad841e78fd496413595c28e7533e7b2144ad4b041472d024dea61c", func := "wellspring/wellspringlaw01.FieldReckons", spec := "fieldReckons", apart := false, narrowed := true }
def FieldReckonsUptoSaid : Prop := fieldReckonsUptoRow.holds Try.pinned (OpenSpec.upto fieldReckonsSpec)

/-- 'wellspringlaw01.FieldDivides', WHERE WHAT IT READS IS OF BULK AT MOST 1048576: true; the input reads as it did. -/
def fieldDividesUptoRow : OpenClaim := { program := "ytghmaaeglejmbaa", sum := "6b7e51478bad841e78fd496413595c28e7533e7b2144ad4b041472d024dea61c", func := "wellspring/wellspringlaw01.FieldDivides", spec := "fieldDivides", apart := false, narrowed := true }
def FieldDividesUptoSaid : Prop := fieldDividesUptoRow.holds Try.pinned (OpenSpec.upto fieldDividesSpec)

/-- 'wellspringlaw01.FieldPowers', WHERE WHAT IT READS IS OF BULK AT MOST 1048576: true; the input reads as it did. -/
def fieldPowersUptoRow : OpenClaim := { program := "ytghmaaeglejmbaa", sum := "6b7e51478bad841e78fd496413595c28e7533e7b2144ad4b041472d024dea61c", func := "wellspring/wellspringlaw01.FieldPowers", spec := "fieldPowers", apart := false, narrowed := true }
def FieldPowersUptoSaid : Prop := fieldPowersUptoRow.holds Try.pinned (OpenSpec.upto fieldPowersSpec)

/-- 'wellspringlaw01.FieldLaws', WHERE WHAT IT READS IS OF BULK AT MOST 1048576: true; the input reads as it did. -/
def fieldLawsUptoRow : OpenClaim := { program := "ytghmaaeglejmbaa", sum := "6b7e51478bad841e78fd496413595c28e7533e7b2144ad4b041472d024dea61c", func := "wellspring/wellspringlaw01.FieldLaws", spec := "fieldLaws", apart := false, narrowed := true }
def FieldLawsUptoSaid : Prop := fieldLawsUptoRow.holds Try.pinned (OpenSpec.upto fieldLawsSpec)

/-- 'wellspringlaw02.KernReckons', WHERE WHAT IT READS IS OF BULK AT MOST 1048576: true; the input reads as it did. -/
def kernReckonsUptoRow : OpenClaim := { program := "ytghmaaeglejmbaa", sum := "6b7e51478bad841e78fd496413595c28e7533e7b2144ad4b041472d024dea61c", func := "wellspring/wellspringlaw02.KernReckons", spec := "kernReckons", unfollowed := true, recurses := true, apart := false, narrowed := true }
def KernReckonsUptoSaid : Prop := kernReckonsUptoRow.holds Try.pinned (OpenSpec.upto kernReckonsSpec)

/-- 'wellspringlaw02.KernPairs', WHERE WHAT IT READS IS OF BULK AT MOST 1048576: true; the input reads as it did. -/
def kernPairsUptoRow : OpenClaim := { program := "ytghmaaeglejmbaa", sum := "6b7e51478bad841e78fd496413595c28e7533e7b2144ad4b041472d024dea61c", func := "wellspring/wellspringlaw02.KernPairs", spec := "kernPairs", apart := false, narrowed := true }
def KernPairsUptoSaid : Prop := kernPairsUptoRow.holds Try.pinned (OpenSpec.upto kernPairsSpec)

/-- 'wellspringlaw02.KernLinear', WHERE WHAT IT READS IS OF BULK AT MOST 1048576: true; the input reads as it did. -/
def kernLinearUptoRow : OpenClaim := { program := "ytghmaaeglejmbaa", sum := "6b7e51478bad841e78fd496413595c28e7533e7b2144ad4b041472d024dea61c", func := "wellspring/wellspringlaw02.KernLinear", spec := "kernLinear", unfollowed := true, recurses := true, apart := false, narrowed := true }
def KernLinearUptoSaid : Prop := kernLinearUptoRow.holds Try.pinned (OpenSpec.upto kernLinearSpec)

end Rows
end Go.Proofs.Ytghmaaeglejmbaa
