import Derived.Test.YtejnkohgecclbaaDoorSum
import Derived.Test.YtejnkohgecclbaaDoorKern
import Derived.Lib.SlBytesConst
/- Calls of sum.Of with slices that were just built; the chapter's example. -/
namespace Go.Proofs.YtejnkohgecclbaaDoor
open Go.ChangeShapes Go.WideShapes Go.ChangeAt Go.RowKit
set_option linter.unusedVariables false
set_option maxRecDepth 100000

theorem rds1 {w : World} {g B n c : Nat} {A : Option Addr} {us : List UInt8} (h0 : w.cell? ⟨g, 0, none⟩ = some (.slice A n c)) (r : Rd w B A n us) (hg : g < B) : Rds w B (some ⟨g, 0, none⟩) 1 [us] := by
  refine ⟨rfl, fun _ => ⟨g, 0, rfl, hg, fun i ws hi => ?_⟩⟩
  match i, hi with
  | 0, hi => simp at hi; subst hi; refine ⟨A, c, ?_, ?_⟩ <;> rw [r.1]; simpa using h0; exact r
theorem sof_one {A : Option Addr} {n c : Nat} {us : List UInt8} {w : World} (HT : HalvesAt w) (r : Rd w w.heap.size A n us) (l : n ≤ 140737488355327) {g : Nat} (hg : w.heap.size = g) :
    Calls Tryd.prog 15 #[.slice (some ⟨g, 0, none⟩) 1 1] (w.alloc (.cells #[.slice A n c] 24)) fun e w' => e = .returned (.int .u32 (rv (crcN us))) ∧ Below w.heap.size w w' := by
  subst hg
  have hb := balloc w (.cells #[.slice A n c] 24)
  have hB := Blk.new w 24 #[.slice A n c]
  have rr := r.step hb
  have C := sof_any (c := 1) (HT.below hb) (rds1 (c := c) (by rw [hB.cell]; rfl) rr hB.lt) (by omega) (by
    intro x hx
    simp at hx
    subst hx
    have := r.1
    omega)
  rw [show [us].flatten = us by simp] at C
  exact C.mono fun e w' ⟨he, hb'⟩ => ⟨he, bstep hb hb'⟩
theorem cell_marked (w : World) (C : Array Value) (e : TypeId) (f : Nat × Nat) (i : Nat) : (w.alloc (.cells C e f)).cell? ⟨w.heap.size, i, none⟩ = C[i]? :=
  cell_of_row _ _ i C e f (heap_alloc_new w _)
theorem awake4 (w : World) (HT : HalvesAt w) : Calls Tryd.prog 5 #[] w fun e w' => e = .returned (.bool true) ∧ Below w.heap.size w w' := by
  have hb := balloc w (.cells #[.int .u8 49, .int .u8 50, .int .u8 51, .int .u8 52, .int .u8 53, .int .u8 54, .int .u8 55, .int .u8 56, .int .u8 57] 5 (9, 10))
  have hr : Rd (w.alloc (.cells #[.int .u8 49, .int .u8 50, .int .u8 51, .int .u8 52, .int .u8 53, .int .u8 54, .int .u8 55, .int .u8 56, .int .u8 57] 5 (9, 10))) (w.heap.size + 1) (some ⟨w.heap.size, 0, none⟩) 9 [49, 50, 51, 52, 53, 54, 55, 56, 57] := by
    refine ⟨rfl, fun _ => ⟨w.heap.size, 0, rfl, by omega, fun i u hu => ?_⟩⟩
    rw [cell_marked, Nat.zero_add]
    have h2 := bvs_get _ i u hu
    rw [← h2, ← Array.getElem?_toList]
    exact congrArg (fun l => l[i]?) (show (#[.int .u8 49, .int .u8 50, .int .u8 51, .int .u8 52, .int .u8 53, .int .u8 54, .int .u8 55, .int .u8 56, .int .u8 57] : Array Value).toList = bvs [49, 50, 51, 52, 53, 54, 55, 56, 57] from rfl)
  have k1 : crcN [49, 50, 51, 52, 53, 54, 55, 56, 57] = 3421780262 := by decide +kernel
  have C1 := sof_one (c := 9) (g := w.heap.size + 1) (HT.below hb) (hr.more (by simp)) (by omega) (by simp)
  rw [k1, show rv 3421780262 = 3421780262 from rfl] at C1
  have C2 := fun (w2 : World) (h : HalvesAt w2) => sof_any (c := 0) (A := none) (N := 0) (rows := []) h Rds.nil (by omega) (by intro r hr; simp at hr)
  rw [show rv (crcN ([] : List (List UInt8)).flatten) = 0 by decide] at C2
  have HT' := Lib.hid HT
  have HB := Lib.hid hb
  clear HT hr k1 hb
  have hcv := Lib.run_convert_bytes_const (P := Tryd.prog) w 24 5 #[.int .u8 49, .int .u8 50, .int .u8 51, .int .u8 52, .int .u8 53, .int .u8 54, .int .u8 55, .int .u8 56, .int .u8 57] 9 9 Tryd.underlying24 Tryd.underlying5
  rw [show (#[.int .u8 49, .int .u8 50, .int .u8 51, .int .u8 52, .int .u8 53, .int .u8 54, .int .u8 55, .int .u8 56, .int .u8 57] : Array Value).size = 9 from rfl] at hcv
  go_enter Tryd.func5, Tryd.ntmps5
  go_wp2_with fail
  refine C1.mono ?_
  rintro e w1 ⟨rfl, b1⟩
  have hb1 := bstep HB.out b1
  go_wp2_with fail
  refine (C2 _ (HT'.out.below hb1)).mono ?_
  rintro e w2 ⟨rfl, b2⟩
  go_wp2_with fail
  go_ret
  exact ⟨rfl, bstep hb1 b2⟩
end Go.Proofs.YtejnkohgecclbaaDoor
