import Derived.Test.YtheohcebiimdoaaWords
/- What the functions of package kern, and the document's own answer for them, come to. -/
namespace Go.Proofs.Ytheohcebiimdoaa
open Go.RowKit
set_option linter.unusedVariables false
set_option maxRecDepth 100000
attribute [local go_sem] bits_xor_b
/-! ### Same, Zero, Few -/
def prefixSame (us vs : List UInt8) (k : Nat) : Prop := us.take k = vs.take k
theorem prefixSame_succ {us vs : List UInt8} {k : Nat} (h : prefixSame us vs k) (hu : k < us.length) (hv : k < vs.length) (e : us[k]?.getD 0 = vs[k]?.getD 0) : prefixSame us vs (k + 1) := by
  unfold prefixSame at *
  rw [List.take_succ_eq_append_getElem hu, List.take_succ_eq_append_getElem hv, h]
  simp [hu, hv] at e
  rw [e]
theorem same_false {us vs : List UInt8} {k : Nat} (e : us[k]?.getD 0 ≠ vs[k]?.getD 0) : (us == vs) = false := by
  simp only [beq_eq_false_iff_ne]
  rintro rfl
  exact e rfl
theorem same_any {B B2 : Nat} {A A2 : Option Addr} {n n2 c c2 : Nat} {us vs : List UInt8} {w : World} (h : Rd w B A n us) (h2 : Rd w B2 A2 n2 vs) (hB : B ≤ w.heap.size) (hB2 : B2 ≤ w.heap.size) (hn : n ≤ 9223372036854775807) :
    Calls Try.prog 12 #[.slice A n c, .slice A2 n2 c2] w fun e w' => e = .returned (.bool (us == vs)) ∧ Below w.heap.size w w' := by
  by_cases hl : n = n2
  · subst hl
    have hlen := h.1
    have hlen2 := h2.1
    have Hl := Lib.hid hlen
    have Hl2 := Lib.hid hlen2
    clear hlen hlen2
    go_enter Try.func12, Try.ntmps12
    go_wp2
    go_loopw [5] (fun i wr => ∃ k : Nat, k ≤ n ∧ i = .int .i64 k ∧ Hid (prefixSame us vs k) ∧ Below w.heap.size w wr) (fun i _ => n - (intOf i).toNat)
    case atStart => exact ⟨0, by omega, rfl, Lib.hid rfl, Below.refl _ _⟩
    case round =>
      obtain ⟨k, hk, rfl, hp, hb⟩ := hrel
      by_cases hlt : k < n
      · obtain ⟨b, off, rfl, hbB, hc⟩ := (h.below (hb.mono hB)).at_ hlt
        obtain ⟨b2, off2, rfl, hbB2, hc2⟩ := (h2.below (hb.mono hB2)).at_ hlt
        by_cases he : us[k]?.getD 0 = vs[k]?.getD 0
        · have t : (bv (us[k]?.getD 0) != bv (vs[k]?.getD 0)) = false := by rw [bv_bne]; simpa using he
          have Hp := Lib.hid (prefixSame_succ hp.out (by rw [Hl.out]; exact hlt) (by rw [Hl2.out]; exact hlt) he)
          clear he
          go_wp2_with fail
          go_quiet (fail)
          go_wp2_with fail
          go_roundw
          case rel => exact ⟨k + 1, by omega, by go_num, Hp, below_drewN hb _⟩
          case measure => simp [intOf]; omega
        · have t : (bv (us[k]?.getD 0) != bv (vs[k]?.getD 0)) = true := by rw [bv_bne]; simpa using he
          have Hf := Lib.hid (same_false he)
          clear he
          go_wp2_with fail
          go_quiet (fail)
          go_wp2_with fail
          go_ret
          exact ⟨by rw [Hf.out]; rfl, below_drewN hb _⟩
      · obtain rfl : k = n := by omega
        have Hf : Hid ((us == vs) = true) := Lib.hid (by
          have := hp.out
          unfold prefixSame at this
          rw [List.take_of_length_le (by rw [Hl.out]; omega), List.take_of_length_le (by rw [Hl2.out]; omega)] at this
          simpa using this)
        go_wp2_with fail
        go_ret
        exact ⟨by rw [Hf.out]; rfl, hb⟩
  · have t : ((n : Int) != (n2 : Int)) = true := by simp; omega
    have Hf : Hid ((us == vs) = false) := Lib.hid (by
      rw [beq_eq_false_iff_ne]
      rintro rfl
      exact hl (h.1.symm.trans h2.1))
    clear hl
    go_enter Try.func12, Try.ntmps12
    go_wp2_with fail
    go_ret
    exact ⟨by rw [Hf.out]; rfl, Below.refl _ _⟩

/-! ### kern.Zero, by way of slices.ContainsFunc -/
/-! ### Few -/
/-! ### The document's Scale and Dot -/
/-! ### kern.Dot -/
/-! ### The tables of one byte's products, half by half -/
/-! ### add -/
def addTo (c : UInt8) (us ss : List UInt8) (k : Nat) : List UInt8 := ss.mapIdx fun i s => if i < k then s ^^^ gm c (us[i]?.getD 0) else s
/-- What is there, and c times another row. -/
def addL (c : UInt8) (us ss : List UInt8) : List UInt8 := addTo c us ss ss.length
/-! ### Scale and Axpy -/
end Go.Proofs.Ytheohcebiimdoaa
