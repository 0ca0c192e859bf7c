import Derived.Test.YtejnkohgecclbaaDoorSum
import Derived.Test.YtejnkohgecclbaaDoorTie
import Derived.ProofKit
import Derived.LaidMore
import Derived.OpenShut
import Derived.Stop.Joined
/- What the listed variable's datum gives the walks: the table's sixteen cells. -/
namespace Go.Proofs.YtejnkohgecclbaaDoor
open Go.ChangeShapes Go.WideShapes Go.ChangeAt Go.RowKit
set_option maxRecDepth 100000

def laid1 : List (String × DataW Unit) := [("wellspring/sum.halves", Rows.laid_wellspring_sum_halves)]
theorem gHalves : Tryd.prog.globalNamed "wellspring/sum.halves" = some 0 := by kernel_rfl
theorem tHalves : (Tryd.prog.globals[0]?).map (·.type) = some 44 := by kernel_rfl
theorem laid_eq : (Rows.laid_wellspring_sum_halves : DataW Unit) = .agg ((List.range 16).map fun j => .lit (.int .u32 ((Sn 4 j : Nat) : Int))) := by kernel_rfl
theorem door_met (os : Os) (args : Array Value) : laidMetH Tryd.prog laid1 ((World.doorLaid Tryd.prog 400 os).forCall (fun _ _ => 0) ⟨#[], args, []⟩).memory :=
  laidMetH_of_parts3 (fuel := 8) (laidMet_of_run' 8 (by kernel_rfl) (by kernel_rfl)) (by kernel_rfl) (by kernel_rfl)
theorem of_laid {W : World} (h : laidMetH Tryd.prog laid1 W) : HalvesAt W := by
  rw [MakeChecks.laidMetH_plain _ _ _ (by kernel_rfl)] at h
  obtain ⟨ps, ⟨g0, t0, cs0, f0, p0, q0, hg0, ht0, hv0, hd0, _, _⟩, _, _⟩ := h
  obtain rfl := Option.some.inj (gHalves.symm.trans hg0)
  obtain rfl := Option.some.inj (tHalves.symm.trans ht0)
  obtain ⟨xs, m1, rfl, hx1, hlen, hn, hel⟩ := DataW.trod_array Tryd.underlying44 hd0
  have c1 : Tryd.prog.cellsOf 23 = 1 := by kernel_rfl
  simp only [Prod.mk.injEq] at hx1
  have hx2 := hx1.1
  rw [laid_eq] at hx2
  injection hx2 with hx2
  intro i hi
  have h1 := hel i hi
  rw [List.getElem?_eq_getElem (by omega), c1, Nat.mul_one] at h1
  obtain ⟨k, e1, e2, _⟩ := DataW.trod_int Tryd.underlying23 h1
  have h2 := congrArg (·[i]?) hx2
  simp only [List.getElem?_map, List.getElem?_range hi, Option.map_some, List.getElem?_eq_getElem (show i < xs.length by omega), e2, Option.some.injEq, DataW.lit.injEq, Lit.int.injEq, true_and] at h2
  rw [World.var?_cell hg0 hv0 i]
  have h3 : (cs0.toList.drop i)[0]? = some (Value.int .u32 k) := by
    have h4 := congrArg (·[0]?) e1
    simpa [List.getElem?_take] using h4
  rw [List.getElem?_drop, Nat.add_zero] at h3
  rw [← Array.getElem?_toList, h3, ← h2]
  rfl
end Go.Proofs.YtejnkohgecclbaaDoor
