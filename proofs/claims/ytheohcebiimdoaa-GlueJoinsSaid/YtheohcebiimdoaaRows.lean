/-
  No cell of these rows narrows 'for every input' (looked for: loops, veiled, ifaces, maps, wideKeys, modest, calm, conditions, laid).
  DERIVED. THE GIVEN ROWS OF THIS SEAT. 4 by the template 'for every input the law returns true; each argument reads behind the call as it read before'; 0 by the template 'total and deterministic' (their statements: YtheohcebiimdoaaTotals.lean).
  GIVEN WITH THE SEED: the statements are not yours to turn. If you find one false, say at which input.
  Laid BY PROGRAM, IN A SANDBOX (cutbox-rows.mjs): the forced cells as the released guide's own fill.sh prints them over the translation 4c30aad0743182b1… (all of the seat's roots in one cut). By AI agents, Wed Nov 11 2026. No macro, syntax, notation, axiom, sorry.
-/
import Derived.Test.YtheohcebiimdoaaChecked
import GoSem.Claim
import GoSem.ClaimJoined
import GoSem.ClaimMapViews
import Derived.JoinedTies
import Derived.KernelRfl
namespace Go.Proofs.Ytheohcebiimdoaa
/- THE CELL 'sum', in the pinned program and in every row, IS THE sha256 OF THE DUMP (.gsa) THAT YtheohcebiimdoaaProg.lean LOADS. Nothing in Lean hashes anything: it is a label: what it is worth is what the hold of that sum in a sandbox is worth. -/
noncomputable def Try.pinned : Pinned := { name := "ytheohcebiimdoaa", sum := "4c30aad0743182b1589150372ba9796f7b3205f6e3249174f47c6f9f4bfaff0f", checked := Try.checked }
namespace Rows
def none {H : Type} : Left H := { results := [], args := [] }

/-- 'wellspringlaw11.CutCuts': WHATEVER THE INPUT: true; the input reads as it did. -/
def cutCutsSpec : ChangeSpec := { name := "cutCuts", fn := fun _ => fun
  | [d1, d2, d3] => { results := [.lit (.bool true)], args := [d1, d2, d3] }
  | _ => none }
def cutCutsRow : OpenClaim := { program := "ytheohcebiimdoaa", sum := "4c30aad0743182b1589150372ba9796f7b3205f6e3249174f47c6f9f4bfaff0f", func := "wellspring/wellspringlaw11.CutCuts", spec := "cutCuts", apart := false }
def CutCutsSaid : Prop := cutCutsRow.holds Try.pinned (OpenSpec.ofChange cutCutsSpec)

/-- ITS FALSE NEIGHBOUR: 'it returns false'. Refute it at one input. -/
def cutCutsWrong : ChangeSpec := { name := "cutCuts", fn := fun _ => fun
  | [d1, d2, d3] => { results := [.lit (.bool false)], args := [d1, d2, d3] }
  | _ => none }
def CutCutsWrongFalsely : Prop := cutCutsRow.holds Try.pinned (OpenSpec.ofChange cutCutsWrong)

/-- 'wellspringlaw11.CutJoins': WHATEVER THE INPUT: true; the input reads as it did. -/
def cutJoinsSpec : ChangeSpec := { name := "cutJoins", fn := fun _ => fun
  | [d1, d2, d3, d4] => { results := [.lit (.bool true)], args := [d1, d2, d3, d4] }
  | _ => none }
def cutJoinsRow : OpenClaim := { program := "ytheohcebiimdoaa", sum := "4c30aad0743182b1589150372ba9796f7b3205f6e3249174f47c6f9f4bfaff0f", func := "wellspring/wellspringlaw11.CutJoins", spec := "cutJoins", apart := false }
def CutJoinsSaid : Prop := cutJoinsRow.holds Try.pinned (OpenSpec.ofChange cutJoinsSpec)

/-- ITS FALSE NEIGHBOUR: 'it returns false'. Refute it at one input. -/
def cutJoinsWrong : ChangeSpec := { name := "cutJoins", fn := fun _ => fun
  | [d1, d2, d3, d4] => { results := [.lit (.bool false)], args := [d1, d2, d3, d4] }
  | _ => none }
def CutJoinsWrongFalsely : Prop := cutJoinsRow.holds Try.pinned (OpenSpec.ofChange cutJoinsWrong)

/-- 'wellspringlaw12.GlueJoins': WHATEVER THE INPUT: true; the input reads as it did. -/
def glueJoinsSpec : ChangeSpec := { name := "glueJoins", fn := fun _ => fun
  | [d1, d2] => { results := [.lit (.bool true)], args := [d1, d2] }
  | _ => none }
def glueJoinsRow : OpenClaim := { program := "ytheohcebiimdoaa", sum := "4c30aad0743182b1589150372ba9796f7b3205f6e3249174f47c6f9f4bfaff0f", func := "wellspring/wellspringlaw12.GlueJoins", spec := "glueJoins", unfollowed := true, recurses := true, apart := false }
def GlueJoinsSaid : Prop := glueJoinsRow.holds Try.pinned (OpenSpec.ofChange glueJoinsSpec)

/-- ITS FALSE NEIGHBOUR: 'it returns false'. Refute it at one input. -/
def glueJoinsWrong : ChangeSpec := { name := "glueJoins", fn := fun _ => fun
  | [d1, d2] => { results := [.lit (.bool false)], args := [d1, d2] }
  | _ => none }
def GlueJoinsWrongFalsely : Prop := glueJoinsRow.holds Try.pinned (OpenSpec.ofChange glueJoinsWrong)

/-- 'wellspringlaw12.GlueBack': WHATEVER THE INPUT: true; the input reads as it did. -/
def glueBackSpec : ChangeSpec := { name := "glueBack", fn := fun _ => fun
  | [d1, d2, d3, d4] => { results := [.lit (.bool true)], args := [d1, d2, d3, d4] }
  | _ => none }
def glueBackRow : OpenClaim := { program := "ytheohcebiimdoaa", sum := "4c30aad0743182b1589150372ba9796f7b3205f6e3249174f47c6f9f4bfaff0f", func := "wellspring/wellspringlaw12.GlueBack", spec := "glueBack", unfollowed := true, recurses := true, apart := false }
def GlueBackSaid : Prop := glueBackRow.holds Try.pinned (OpenSpec.ofChange glueBackSpec)

/-- ITS FALSE NEIGHBOUR: 'it returns false'. Refute it at one input. -/
def glueBackWrong : ChangeSpec := { name := "glueBack", fn := fun _ => fun
  | [d1, d2, d3, d4] => { results := [.lit (.bool false)], args := [d1, d2, d3, d4] }
  | _ => none }
def GlueBackWrongFalsely : Prop := glueBackRow.holds Try.pinned (OpenSpec.ofChange glueBackWrong)

/- THE SECOND FORM. 'bulk': how many values and letters a reading holds, each counted each time it is reached (what is shared counts as often as it is met; a slice's spare places count too). A statement '..UptoSaid' is the law's where the arguments, and the package variables that the reading takes, are together of bulk at most 1048576: NARROWER than '..Said'. Prove '..Said' where nothing that the law and all that it calls make is longer than what came in: it says more and counts as full. Else prove '..UptoSaid'. A law counts once. -/
mutual
def uptoBulk {H : Type} : DataW H → Nat
  | .lit (.string bytes) => bytes.length + 1
  | .lit _ => 1
  | .nil => 1
  | .ptr d => uptoBulk d + 1
  | .slice elems spare => uptoBulkAll elems + uptoBulkAll spare + 1
  | .agg parts => uptoBulkAll parts + 1
  | .iface _ d => uptoBulk d + 1
  | .map entries => uptoBulkEntries entries + 1
  | .held _ => 1
def uptoBulkAll {H : Type} : List (DataW H) → Nat
  | [] => 0
  | d :: r => uptoBulk d + uptoBulkAll r
def uptoBulkEntries {H : Type} : List (Lit × DataW H) → Nat
  | [] => 0
  | x :: r => uptoBulkEntry x + uptoBulkEntries r
def uptoBulkEntry {H : Type} : Lit × DataW H → Nat
  | (.string bytes, d) => bytes.length + uptoBulk d + 1
  | (_, d) => uptoBulk d + 1
 end
def uptoSmall : (H : Type) → List (DataW H) → Bool := fun _ ds => decide (uptoBulkAll ds ≤ 1048576)
def OpenSpec.upto (s : _root_.Go.ChangeSpec) : _root_.Go.OpenSpec := { _root_.Go.OpenSpec.ofChange s with cond := some uptoSmall }

/-- 'wellspringlaw11.CutCuts', WHERE WHAT IT READS IS OF BULK AT MOST 1048576: true; the input reads as it did. -/
def cutCutsUptoRow : OpenClaim := { program := "ytheohcebiimdoaa", sum := "4c30aad0743182b1589150372ba9796f7b3205f6e3249174f47c6f9f4bfaff0f", func := "wellspring/wellspringlaw11.CutCuts", spec := "cutCuts", apart := false, narrowed := true }
def CutCutsUptoSaid : Prop := cutCutsUptoRow.holds Try.pinned (OpenSpec.upto cutCutsSpec)

/-- 'wellspringlaw11.CutJoins', WHERE WHAT IT READS IS OF BULK AT MOST 1048576: true; the input reads as it did. -/
def cutJoinsUptoRow : OpenClaim := { program := "ytheohcebiimdoaa", sum := "4c30aad0743182b1589150372ba9796f7b3205f6e3249174f47c6f9f4bfaff0f", func := "wellspring/wellspringlaw11.CutJoins", spec := "cutJoins", apart := false, narrowed := true }
def CutJoinsUptoSaid : Prop := cutJoinsUptoRow.holds Try.pinned (OpenSpec.upto cutJoinsSpec)

/-- 'wellspringlaw12.GlueJoins', WHERE WHAT IT READS IS OF BULK AT MOST 1048576: true; the input reads as it did. -/
def glueJoinsUptoRow : OpenClaim := { program := "ytheohcebiimdoaa", sum := "4c30aad0743182b1589150372ba9796f7b3205f6e3249174f47c6f9f4bfaff0f", func := "wellspring/wellspringlaw12.GlueJoins", spec := "glueJoins", unfollowed := true, recurses := true, apart := false, narrowed := true }
def GlueJoinsUptoSaid : Prop := glueJoinsUptoRow.holds Try.pinned (OpenSpec.upto glueJoinsSpec)

/-- 'wellspringlaw12.GlueBack', WHERE WHAT IT READS IS OF BULK AT MOST 1048576: true; the input reads as it did. -/
def glueBackUptoRow : OpenClaim := { program := "ytheohcebiimdoaa", sum := "4c30aad0743182b1589150372ba9796f7b3205f6e3249174f47c6f9f4bfaff0f", func := "wellspring/wellspringlaw12.GlueBack", spec := "glueBack", unfollowed := true, recurses := true, apart := false, narrowed := true }
def GlueBackUptoSaid : Prop := glueBackUptoRow.holds Try.pinned (OpenSpec.upto glueBackSpec)

end Rows
end Go.Proofs.Ytheohcebiimdoaa
