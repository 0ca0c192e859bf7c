import Derived.Test.YtilelmejpbnbnaaKern
/- What the functions of package kern come to: Axpy, Sum, Comb; the document's Comb. -/
namespace Go.Proofs.Ytilelmejpbnbnaa
open Go.RowKit
set_option linter.unusedVariables false
set_option maxRecDepth 100000
attribute [local go_sem] bits_xor_b
theorem axpy_size {A A2 : Option Addr} {n n2 c c2 : Nat} (x : UInt8) {w : World} (hl : n ≠ n2) :
    Calls Try.prog 99 #[.int .u8 (bv x), .slice A n c, .slice A2 n2 c2] w fun e w' => e = .returned (.tuple #[.slice none 0 0, .int .i64 4]) ∧ w = w' := by
  have t : ((n : Int) != (n2 : Int)) = true := by simp; omega
  go_enter Try.func99, Try.ntmps99
  go_wp2_with fail
  go_ret2
  exact ⟨rfl, rfl⟩
theorem axpy_any {B B2 : Nat} {A A2 : Option Addr} {n c c2 : Nat} (x : UInt8) {us vs : List UInt8} {w : World} (h : Rd w B A n us) (h2 : Rd w B2 A2 n vs) (hB : B ≤ w.heap.size) (hB2 : B2 ≤ w.heap.size) (hn : n ≤ 140737488355328) :
    Calls Try.prog 99 #[.int .u8 (bv x), .slice A n c, .slice A2 n c2] w fun e w' => ∃ g, e = .returned (.tuple #[.slice (some ⟨g, 0, none⟩) n n, .int .i64 0]) ∧ w.heap.size ≤ g ∧ Blk w' g 5 (bvs (addL x us vs)).toArray ∧ Below w.heap.size w w' := by
  have hmk := make_bytes n hn
  have hb0 : Below w.heap.size w (w.alloc (.cells (bvs (nulls n)).toArray 5)) := by go_grown
  have hg := Blk.new w 5 (bvs (nulls n)).toArray
  have h2' := h2.below (hb0.mono hB2)
  go_enter Try.func99, Try.ntmps99
  go_wp2_with (refine copy_bytes (o := ⟨some 19, _, _, _, _, _⟩) rfl (.tmp 17) (.tmp 18) rfl w.heap.size n c2 A2 (nulls n) vs rfl rfl hg (nulls_length n) h2' w.heap.size w hb0 (Nat.le_refl _) ?_)
  intro w1 hg1 hb1
  have hz1 := hb1.size
  go_wp2_with fail
  refine (kadd_any x (h.below (hb1.mono hB)) (by omega) hg1 hB h2.1 (by omega)).mono ?_
  rintro e w2 ⟨rfl, hg2, hw2⟩
  go_wp2_with fail
  go_ret2
  exact ⟨w.heap.size, rfl, Nat.le_refl _, hg2, hb1.trans (grown_below hw2 hz1 (Nat.le_refl _))⟩

/-! ### Rows of one length -/
def lenB (m : Nat) (rows : List (List UInt8)) : Bool := rows.all (fun r => r.length == m)
/-! ### Combinations -/
/-- The sum of each row times its byte. -/
def combTo (cs : List UInt8) (rows : List (List UInt8)) (ss : List UInt8) : Nat → List UInt8
  | 0 => ss
  | k + 1 => addL (cs[k]?.getD 0) (rows[k]?.getD []) (combTo cs rows ss k)
theorem addL_length (c : UInt8) (us ss : List UInt8) : (addL c us ss).length = ss.length := addTo_length _ _ _ _
end Go.Proofs.Ytilelmejpbnbnaa
