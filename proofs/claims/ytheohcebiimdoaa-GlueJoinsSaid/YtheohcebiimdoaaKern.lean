import Derived.Test.YtheohcebiimdoaaField
/- What the functions of package kern, and the document's own answer for them, come to. -/
namespace Go.Proofs.Ytheohcebiimdoaa
open Go.RowKit
set_option linter.unusedVariables false
set_option maxRecDepth 100000
attribute [local go_sem] bits_xor_b
/-! ### Same, Zero, Few -/
def prefixSame (us vs : List UInt8) (k : Nat) : Prop := us.take k = vs.take k
theorem prefixSame_succ {us vs : List UInt8} {k : Nat} (h : prefixSame us vs k) (hu : k < us.length) (hv : k < vs.length) (e : us[k]?.getD 0 = vs[k]?.getD 0) : prefixSame us vs (k + 1) := by
  unfold prefixSame at *
  rw [List.take_succ_eq_append_getElem hu, List.take_succ_eq_append_getElem hv, h]
  simp [hu, hv] at e
  rw [e]
theorem same_false {us vs : List UInt8} {k : Nat} (e : us[k]?.getD 0 ≠ vs[k]?.getD 0) : (us == vs) = false := by
  simp only [beq_eq_false_iff_ne]
  rintro rfl
  exact e rfl
theorem same_any {B B2 : Nat} {A A2 : Option Addr} {n n2 c c2 : Nat} {us vs : List UInt8} {w : World} (h : Rd w B A n us) (h2 : Rd w B2 A2 n2 vs) (hB : B ≤ w.heap.size) (hB2 : B2 ≤ w.heap.size) (hn : n ≤ 9223372036854775807) :
    Calls Try.prog 12 #[.slice A n c, .slice A2 n2 c2] w fun e w' => e = .returned (.bool (us == vs)) ∧ Below w.heap.size w w' := by
  by_cases hl : n = n2
  · subst hl
    have hlen := h.1
    have hlen2 := h2.1
    have Hl := Lib.hid hlen
    have Hl2 := Lib.hid hlen2
    clear hlen hlen2
    go_enter Try.func12, Try.ntmps12
    go_wp2
    go_loopw [5] (fun i wr => ∃ k : Nat, k ≤ n ∧ i = .int .i64 k ∧ Hid (prefixSame us vs k) ∧ Below w.heap.size w wr) (fun i _ => n - (intOf i).toNat)
    case atStart => exact ⟨0, by omega, rfl, Lib.hid rfl, Below.refl _ _⟩
    case round =>
      obtain ⟨k, hk, rfl, hp, hb⟩ := hrel
      by_cases hlt : k < n
      · obtain ⟨b, off, rfl, hbB, hc⟩ := (h.below (hb.mono hB)).at_ hlt
        obtain ⟨b2, off2, rfl, hbB2, hc2⟩ := (h2.below (hb.mono hB2)).at_ hlt
        by_cases he : us[k]?.getD 0 = vs[k]?.getD 0
        · have t : (bv (us[k]?.getD 0) != bv (vs[k]?.getD 0)) = false := by rw [bv_bne]; simpa using he
          have Hp := Lib.hid (prefixSame_succ hp.out (by rw [Hl.out]; exact hlt) (by rw [Hl2.out]; exact hlt) he)
          clear he
          go_wp2_with fail
          go_quiet (fail)
          go_wp2_with fail
          go_roundw
          case rel => exact ⟨k + 1, by omega, by go_num, Hp, below_drewN hb _⟩
          case measure => simp [intOf]; omega
        · have t : (bv (us[k]?.getD 0) != bv (vs[k]?.getD 0)) = true := by rw [bv_bne]; simpa using he
          have Hf := Lib.hid (same_false he)
          clear he
          go_wp2_with fail
          go_quiet (fail)
          go_wp2_with fail
          go_ret
          exact ⟨by rw [Hf.out]; rfl, below_drewN hb _⟩
      · obtain rfl : k = n := by omega
        have Hf : Hid ((us == vs) = true) := Lib.hid (by
          have := hp.out
          unfold prefixSame at this
          rw [List.take_of_length_le (by rw [Hl.out]; omega), List.take_of_length_le (by rw [Hl2.out]; omega)] at this
          simpa using this)
        go_wp2_with fail
        go_ret
        exact ⟨by rw [Hf.out]; rfl, hb⟩
  · have t : ((n : Int) != (n2 : Int)) = true := by simp; omega
    have Hf : Hid ((us == vs) = false) := Lib.hid (by
      rw [beq_eq_false_iff_ne]
      rintro rfl
      exact hl (h.1.symm.trans h2.1))
    clear hl
    go_enter Try.func12, Try.ntmps12
    go_wp2_with fail
    go_ret
    exact ⟨by rw [Hf.out]; rfl, Below.refl _ _⟩

def zeroB (us : List UInt8) : Bool := us.all (· == 0)
def prefixZero (us : List UInt8) (k : Nat) : Prop := zeroB (us.take k) = true
theorem prefixZero_succ {us : List UInt8} {k : Nat} (h : prefixZero us k) (hu : k < us.length) (e : us[k]?.getD 0 = 0) : prefixZero us (k + 1) := by
  unfold prefixZero zeroB at *
  rw [List.take_succ_eq_append_getElem hu, List.all_append, h]
  simp [hu] at e
  simp [e]
theorem zero_false {us : List UInt8} {k : Nat} (hu : k < us.length) (e : us[k]?.getD 0 ≠ 0) : zeroB us = false := by
  unfold zeroB
  rw [List.all_eq_false]
  simp [hu] at e
  exact ⟨us[k], List.getElem_mem _, by simpa using e⟩
theorem refzero_any {B : Nat} {A : Option Addr} {n c : Nat} {us : List UInt8} {w : World} (h : Rd w B A n us) (hn : n ≤ 9223372036854775807) :
    Calls Try.prog 15 #[.slice A n c] w fun e w' => e = .returned (.bool (zeroB us)) ∧ w = w' := by
  have Hl := Lib.hid h.1
  go_enter Try.func15, Try.ntmps15
  go_wp2
  go_loop [3] (fun i => ∃ k : Nat, k ≤ n ∧ i = .int .i64 k ∧ Hid (prefixZero us k)) (fun i => n - (intOf i).toNat)
  case atStart => exact ⟨0, by omega, rfl, Lib.hid rfl⟩
  case round =>
    obtain ⟨k, hk, rfl, hp⟩ := hrel
    by_cases hlt : k < n
    · obtain ⟨b, off, rfl, _, hc⟩ := h.at_ hlt
      by_cases he : us[k]?.getD 0 = 0
      · have t : (bv (us[k]?.getD 0) != 0) = false := by rw [he]; rfl
        have Hp := Lib.hid (prefixZero_succ hp.out (by rw [Hl.out]; exact hlt) he)
        clear he
        go_wp2_with fail
        go_round
        case rel => exact ⟨k + 1, by omega, by go_num, Hp⟩
        case measure => simp [intOf]; omega
      · have t : (bv (us[k]?.getD 0) != 0) = true := bv_ne' he
        have Hf := Lib.hid (zero_false (by rw [Hl.out]; exact hlt) he)
        clear he
        go_wp2_with fail
        go_ret
        exact ⟨by rw [Hf.out]; rfl, rfl⟩
    · obtain rfl : k = n := by omega
      have Hf : Hid (zeroB us = true) := Lib.hid (by
        have := hp.out
        unfold prefixZero at this
        rwa [List.take_of_length_le (by rw [Hl.out]; omega)] at this)
      go_wp2_with fail
      go_ret
      exact ⟨by rw [Hf.out]; rfl, rfl⟩

/-! ### kern.Zero, by way of slices.ContainsFunc -/
theorem zero_fn (u : UInt8) (w : World) : Calls Try.prog 38 #[.int .u8 (bv u)] w fun e w' => e = .returned (.bool (bv u != 0)) ∧ w = w' := by
  go_enter Try.func38, Try.ntmps38
  go_wp2
  go_ret
  exact ⟨rfl, rfl⟩
theorem zero_index {B : Nat} {A : Option Addr} {n c : Nat} {us : List UInt8} {w : World} (h : Rd w B A n us) (hn : n ≤ 9223372036854775807) :
    Calls Try.prog 42 #[.slice A n c, .func (.func 38) #[] #[]] w fun e w' => ∃ i : Int, e = .returned (.int .i64 i) ∧ decide (0 ≤ i) = !zeroB us ∧ w = w' := by
  have Hl := Lib.hid h.1
  go_enter Try.func42, Try.ntmps42
  go_wp2
  go_loop [8] (fun i => ∃ k : Nat, k ≤ n ∧ i = .int .i64 k ∧ Hid (prefixZero us k)) (fun i => n - (intOf i).toNat)
  case atStart => exact ⟨0, by omega, rfl, Lib.hid rfl⟩
  case round =>
    obtain ⟨k, hk, rfl, hp⟩ := hrel
    by_cases hlt : k < n
    · obtain ⟨b, off, rfl, _, hc⟩ := h.at_ hlt
      by_cases he : us[k]?.getD 0 = 0
      · have t : (bv (us[k]?.getD 0) != 0) = false := by rw [he]; rfl
        have Hp := Lib.hid (prefixZero_succ hp.out (by rw [Hl.out]; exact hlt) he)
        clear he
        go_wp2_with fail
        refine (zero_fn _ _).mono ?_
        rintro e w' ⟨rfl, rfl⟩
        go_wp2_with fail
        go_round
        case rel => exact ⟨k + 1, by omega, by go_num, Hp⟩
        case measure => simp [intOf]; omega
      · have t : (bv (us[k]?.getD 0) != 0) = true := bv_ne' he
        have Hf := Lib.hid (zero_false (by rw [Hl.out]; exact hlt) he)
        clear he
        go_wp2_with fail
        refine (zero_fn _ _).mono ?_
        rintro e w' ⟨rfl, rfl⟩
        go_wp2_with fail
        go_ret
        exact ⟨(k : Int), rfl, by rw [Hf.out]; simp, rfl⟩
    · obtain rfl : k = n := by omega
      have Hf : Hid (zeroB us = true) := Lib.hid (by
        have := hp.out
        unfold prefixZero at this
        rwa [List.take_of_length_le (by rw [Hl.out]; omega)] at this)
      go_wp2_with fail
      go_ret
      exact ⟨-1, rfl, by rw [Hf.out]; simp, rfl⟩
theorem zero_contains {B : Nat} {A : Option Addr} {n c : Nat} {us : List UInt8} {w : World} (h : Rd w B A n us) (hn : n ≤ 9223372036854775807) :
    Calls Try.prog 37 #[.slice A n c, .func (.func 38) #[] #[]] w fun e w' => e = .returned (.bool (!zeroB us)) ∧ w = w' := by
  go_enter Try.func37, Try.ntmps37
  go_wp2_with fail
  refine (zero_index h hn).mono ?_
  rintro e w' ⟨i, rfl, hi, rfl⟩
  have Hi := Lib.hid hi
  clear hi
  go_wp2_with fail
  go_ret
  exact ⟨by rw [← Hi.out]; rfl, rfl⟩
theorem kzero_any {B : Nat} {A : Option Addr} {n c : Nat} {us : List UInt8} {w : World} (h : Rd w B A n us) (hn : n ≤ 9223372036854775807) :
    Calls Try.prog 34 #[.slice A n c] w fun e w' => e = .returned (.bool (zeroB us)) ∧ w = w' := by
  go_enter Try.func34, Try.ntmps34
  go_wp2_with fail
  refine (zero_contains h hn).mono ?_
  rintro e w' ⟨rfl, rfl⟩
  go_wp2_with fail
  go_ret
  exact ⟨by simp, rfl⟩

/-! ### Few -/
/-! ### The document's Scale and Dot -/
/-! ### kern.Dot -/
/-! ### The tables of one byte's products, half by half -/
/-! ### add -/
def addTo (c : UInt8) (us ss : List UInt8) (k : Nat) : List UInt8 := ss.mapIdx fun i s => if i < k then s ^^^ gm c (us[i]?.getD 0) else s
/-- What is there, and c times another row. -/
def addL (c : UInt8) (us ss : List UInt8) : List UInt8 := addTo c us ss ss.length
/-! ### Scale and Axpy -/
end Go.Proofs.Ytheohcebiimdoaa
