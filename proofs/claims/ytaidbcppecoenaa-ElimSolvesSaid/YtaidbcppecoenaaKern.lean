import Derived.Test.YtaidbcppecoenaaField
/- What the functions of package kern, and the document's own answer for them, come to. -/
namespace Go.Proofs.Ytaidbcppecoenaa
open Go.RowKit
set_option linter.unusedVariables false
set_option maxRecDepth 100000
attribute [local go_sem] bits_xor_b
/-! ### Same, Zero, Few -/
def prefixSame (us vs : List UInt8) (k : Nat) : Prop := us.take k = vs.take k
theorem prefixSame_succ {us vs : List UInt8} {k : Nat} (h : prefixSame us vs k) (hu : k < us.length) (hv : k < vs.length) (e : us[k]?.getD 0 = vs[k]?.getD 0) : prefixSame us vs (k + 1) := by
  unfold prefixSame at *
  rw [List.take_succ_eq_append_getElem hu, List.take_succ_eq_append_getElem hv, h]
  simp [hu, hv] at e
  rw [e]
theorem same_false {us vs : List UInt8} {k : Nat} (e : us[k]?.getD 0 ≠ vs[k]?.getD 0) : (us == vs) = false := by
  simp only [beq_eq_false_iff_ne]
  rintro rfl
  exact e rfl
theorem same_any {B B2 : Nat} {A A2 : Option Addr} {n n2 c c2 : Nat} {us vs : List UInt8} {w : World} (h : Rd w B A n us) (h2 : Rd w B2 A2 n2 vs) (hB : B ≤ w.heap.size) (hB2 : B2 ≤ w.heap.size) (hn : n ≤ 9223372036854775807) :
    Calls Try.prog 45 #[.slice A n c, .slice A2 n2 c2] w fun e w' => e = .returned (.bool (us == vs)) ∧ Below w.heap.size w w' := by
  by_cases hl : n = n2
  · subst hl
    have hlen := h.1
    have hlen2 := h2.1
    have Hl := Lib.hid hlen
    have Hl2 := Lib.hid hlen2
    clear hlen hlen2
    go_enter Try.func45, Try.ntmps45
    go_wp2
    go_loopw [5] (fun i wr => ∃ k : Nat, k ≤ n ∧ i = .int .i64 k ∧ Hid (prefixSame us vs k) ∧ Below w.heap.size w wr) (fun i _ => n - (intOf i).toNat)
    case atStart => exact ⟨0, by omega, rfl, Lib.hid rfl, Below.refl _ _⟩
    case round =>
      obtain ⟨k, hk, rfl, hp, hb⟩ := hrel
      by_cases hlt : k < n
      · obtain ⟨b, off, rfl, hbB, hc⟩ := (h.below (hb.mono hB)).at_ hlt
        obtain ⟨b2, off2, rfl, hbB2, hc2⟩ := (h2.below (hb.mono hB2)).at_ hlt
        by_cases he : us[k]?.getD 0 = vs[k]?.getD 0
        · have t : (bv (us[k]?.getD 0) != bv (vs[k]?.getD 0)) = false := by rw [bv_bne]; simpa using he
          have Hp := Lib.hid (prefixSame_succ hp.out (by rw [Hl.out]; exact hlt) (by rw [Hl2.out]; exact hlt) he)
          clear he
          go_wp2_with fail
          go_quiet (fail)
          go_wp2_with fail
          go_roundw
          case rel => exact ⟨k + 1, by omega, by go_num, Hp, below_drewN hb _⟩
          case measure => simp [intOf]; omega
        · have t : (bv (us[k]?.getD 0) != bv (vs[k]?.getD 0)) = true := by rw [bv_bne]; simpa using he
          have Hf := Lib.hid (same_false he)
          clear he
          go_wp2_with fail
          go_quiet (fail)
          go_wp2_with fail
          go_ret
          exact ⟨by rw [Hf.out]; rfl, below_drewN hb _⟩
      · obtain rfl : k = n := by omega
        have Hf : Hid ((us == vs) = true) := Lib.hid (by
          have := hp.out
          unfold prefixSame at this
          rw [List.take_of_length_le (by rw [Hl.out]; omega), List.take_of_length_le (by rw [Hl2.out]; omega)] at this
          simpa using this)
        go_wp2_with fail
        go_ret
        exact ⟨by rw [Hf.out]; rfl, hb⟩
  · have t : ((n : Int) != (n2 : Int)) = true := by simp; omega
    have Hf : Hid ((us == vs) = false) := Lib.hid (by
      rw [beq_eq_false_iff_ne]
      rintro rfl
      exact hl (h.1.symm.trans h2.1))
    clear hl
    go_enter Try.func45, Try.ntmps45
    go_wp2_with fail
    go_ret
    exact ⟨by rw [Hf.out]; rfl, Below.refl _ _⟩

def zeroB (us : List UInt8) : Bool := us.all (· == 0)
def prefixZero (us : List UInt8) (k : Nat) : Prop := zeroB (us.take k) = true
theorem prefixZero_succ {us : List UInt8} {k : Nat} (h : prefixZero us k) (hu : k < us.length) (e : us[k]?.getD 0 = 0) : prefixZero us (k + 1) := by
  unfold prefixZero zeroB at *
  rw [List.take_succ_eq_append_getElem hu, List.all_append, h]
  simp [hu] at e
  simp [e]
theorem zero_false {us : List UInt8} {k : Nat} (hu : k < us.length) (e : us[k]?.getD 0 ≠ 0) : zeroB us = false := by
  unfold zeroB
  rw [List.all_eq_false]
  simp [hu] at e
  exact ⟨us[k], List.getElem_mem _, by simpa using e⟩
/-! ### kern.Zero, by way of slices.ContainsFunc -/
theorem zero_fn (u : UInt8) (w : World) : Calls Try.prog 101 #[.int .u8 (bv u)] w fun e w' => e = .returned (.bool (bv u != 0)) ∧ w = w' := by
  go_enter Try.func101, Try.ntmps101
  go_wp2
  go_ret
  exact ⟨rfl, rfl⟩
theorem zero_index {B : Nat} {A : Option Addr} {n c : Nat} {us : List UInt8} {w : World} (h : Rd w B A n us) (hn : n ≤ 9223372036854775807) :
    Calls Try.prog 107 #[.slice A n c, .func (.func 101) #[] #[]] w fun e w' => ∃ i : Int, e = .returned (.int .i64 i) ∧ decide (0 ≤ i) = !zeroB us ∧ w = w' := by
  have Hl := Lib.hid h.1
  go_enter Try.func107, Try.ntmps107
  go_wp2
  go_loop [8] (fun i => ∃ k : Nat, k ≤ n ∧ i = .int .i64 k ∧ Hid (prefixZero us k)) (fun i => n - (intOf i).toNat)
  case atStart => exact ⟨0, by omega, rfl, Lib.hid rfl⟩
  case round =>
    obtain ⟨k, hk, rfl, hp⟩ := hrel
    by_cases hlt : k < n
    · obtain ⟨b, off, rfl, _, hc⟩ := h.at_ hlt
      by_cases he : us[k]?.getD 0 = 0
      · have t : (bv (us[k]?.getD 0) != 0) = false := by rw [he]; rfl
        have Hp := Lib.hid (prefixZero_succ hp.out (by rw [Hl.out]; exact hlt) he)
        clear he
        go_wp2_with fail
        refine (zero_fn _ _).mono ?_
        rintro e w' ⟨rfl, rfl⟩
        go_wp2_with fail
        go_round
        case rel => exact ⟨k + 1, by omega, by go_num, Hp⟩
        case measure => simp [intOf]; omega
      · have t : (bv (us[k]?.getD 0) != 0) = true := bv_ne' he
        have Hf := Lib.hid (zero_false (by rw [Hl.out]; exact hlt) he)
        clear he
        go_wp2_with fail
        refine (zero_fn _ _).mono ?_
        rintro e w' ⟨rfl, rfl⟩
        go_wp2_with fail
        go_ret
        exact ⟨(k : Int), rfl, by rw [Hf.out]; simp, rfl⟩
    · obtain rfl : k = n := by omega
      have Hf : Hid (zeroB us = true) := Lib.hid (by
        have := hp.out
        unfold prefixZero at this
        rwa [List.take_of_length_le (by rw [Hl.out]; omega)] at this)
      go_wp2_with fail
      go_ret
      exact ⟨-1, rfl, by rw [Hf.out]; simp, rfl⟩
theorem zero_contains {B : Nat} {A : Option Addr} {n c : Nat} {us : List UInt8} {w : World} (h : Rd w B A n us) (hn : n ≤ 9223372036854775807) :
    Calls Try.prog 100 #[.slice A n c, .func (.func 101) #[] #[]] w fun e w' => e = .returned (.bool (!zeroB us)) ∧ w = w' := by
  go_enter Try.func100, Try.ntmps100
  go_wp2_with fail
  refine (zero_index h hn).mono ?_
  rintro e w' ⟨i, rfl, hi, rfl⟩
  have Hi := Lib.hid hi
  clear hi
  go_wp2_with fail
  go_ret
  exact ⟨by rw [← Hi.out]; rfl, rfl⟩
theorem kzero_any {B : Nat} {A : Option Addr} {n c : Nat} {us : List UInt8} {w : World} (h : Rd w B A n us) (hn : n ≤ 9223372036854775807) :
    Calls Try.prog 84 #[.slice A n c] w fun e w' => e = .returned (.bool (zeroB us)) ∧ w = w' := by
  go_enter Try.func84, Try.ntmps84
  go_wp2_with fail
  refine (zero_contains h hn).mono ?_
  rintro e w' ⟨rfl, rfl⟩
  go_wp2_with fail
  go_ret
  exact ⟨by simp, rfl⟩

/-! ### Few -/
/-! ### The document's Scale and Dot -/
def scaleL (c : UInt8) (us : List UInt8) : List UInt8 := us.map (gm c)
/-! ### kern.Dot -/
/-! ### The tables of one byte's products, half by half -/
/-- (Behind a name, so that the walk leaves it as it stands.) -/
def ob (n : Nat) : UInt8 := UInt8.ofNat n
theorem bv_ob (n : Nat) (h : n < 256) : bv (ob n) = (n : Int) := bv_ofNat n h
def tabL (c : UInt8) (m : Nat) : List UInt8 := (List.range 16).map fun i => if i < m then gm c (ob i) else 0
def tabH (c : UInt8) (m : Nat) : List UInt8 := (List.range 16).map fun i => if i < m then gm c (ob (16 * i)) else 0
def tab (c : UInt8) (m m' : Nat) : Array Value := (bvs (tabL c m ++ tabH c m')).toArray
theorem tab_low {c : UInt8} {m m' i : Nat} (h : i < m) (h16 : i < 16) : (tab c m m')[i]? = some (.int .u8 (bv (gm c (ob i)))) := by
  simp [tab, bvs, tabL, tabH, List.getElem?_append, h, h16]
theorem tab_high {c : UInt8} {m m' i : Nat} (h : i < m') (h16 : i < 16) : (tab c m m')[16 + i]? = some (.int .u8 (bv (gm c (ob (16 * i))))) := by
  simp [tab, bvs, tabL, tabH, List.getElem?_append, h, h16]
theorem tab_some {c : UInt8} {m m' i : Nat} (h : i < 32) : ∃ v, (tab c m m')[i]? = some v := by
  have : i < (tab c m m').size := by simp [tab, bvs, tabL, tabH]; omega
  exact ⟨_, Array.getElem?_eq_getElem this⟩
theorem tab_set_low {c : UInt8} {m m' : Nat} (h : m < 16) : (tab c m m').setIfInBounds m (.int .u8 (bv (gm c (ob m)))) = tab c (m + 1) m' := by
  unfold tab
  rw [bvs_set, List.set_append_left _ _ (by simp [tabL]; omega)]
  congr 3
  apply List.ext_getElem? 
  intro i
  simp only [List.getElem?_set, tabL, List.getElem?_map]
  by_cases hi : i < 16
  · by_cases he : m = i
    · subst he; simp [hi]
    · simp [hi, he]; split <;> split <;> first | rfl | omega
  · have : ¬ m = i := by omega
    simp [hi, this]
theorem tab_set_high {c : UInt8} {m m' : Nat} (h : m' < 16) : (tab c m m').setIfInBounds (16 + m') (.int .u8 (bv (gm c (ob (16 * m'))))) = tab c m (m' + 1) := by
  unfold tab
  rw [bvs_set, List.set_append_right _ _ (by simp [tabL])]
  congr 3
  apply List.ext_getElem? 
  intro i
  have e : 16 + m' - (tabL c m).length = m' := by simp [tabL]
  rw [e]
  simp only [List.getElem?_set, tabH, List.getElem?_map]
  by_cases hi : i < 16
  · by_cases he : m' = i
    · subst he; simp [hi]
    · simp [hi, he]; split <;> split <;> first | rfl | omega
  · have : ¬ m' = i := by omega
    simp [hi, this]
theorem nat_xor_add (k j : Nat) (hk : k < 4) (hj : j < 2 ^ k) : ob (2 ^ k) ^^^ ob j = ob (2 ^ k + j) ∧ ob (16 * 2 ^ k) ^^^ ob (16 * j) = ob (16 * (2 ^ k + j)) := by
  have : ∀ k, k < 4 → ∀ j, j < 2 ^ k → ob (2 ^ k) ^^^ ob j = ob (2 ^ k + j) ∧ ob (16 * 2 ^ k) ^^^ ob (16 * j) = ob (16 * (2 ^ k + j)) := by decide +kernel
  exact this k hk j hj
def zeros32 : Array Value := (bvs (List.replicate 32 0)).toArray
theorem zeros32_eq : zeros32 = #[.int .u8 0, .int .u8 0, .int .u8 0, .int .u8 0, .int .u8 0, .int .u8 0, .int .u8 0, .int .u8 0, .int .u8 0, .int .u8 0, .int .u8 0, .int .u8 0, .int .u8 0, .int .u8 0, .int .u8 0, .int .u8 0, .int .u8 0, .int .u8 0, .int .u8 0, .int .u8 0, .int .u8 0, .int .u8 0, .int .u8 0, .int .u8 0, .int .u8 0, .int .u8 0, .int .u8 0, .int .u8 0, .int .u8 0, .int .u8 0, .int .u8 0, .int .u8 0] := rfl
theorem zeros32_tab (c : UInt8) : zeros32 = tab c 1 1 := by
  have h0 : ∀ i : Nat, (if i < 1 then gm c (ob i) else 0) = 0 := by
    intro i
    split
    · have : i = 0 := by omega
      subst this; exact gm_zero_right c
    · rfl
  have h1 : ∀ i : Nat, (if i < 1 then gm c (ob (16 * i)) else 0) = 0 := by
    intro i
    split
    · have : i = 0 := by omega
      subst this; exact gm_zero_right c
    · rfl
  unfold zeros32 tab tabL tabH
  simp only [h0, h1]
  rfl
theorem tab_size (c : UInt8) (m m' : Nat) : (tab c m m').size = 32 := by simp [tab, bvs, tabL, tabH]
theorem tab_one (c : UInt8) (m m' : Nat) : (tab c m m').all (·.oneCell') = true := by
  rw [Array.all_eq_true_iff_forall_mem]
  intro x hx
  simp only [tab, bvs, List.mem_toArray, List.mem_map] at hx
  obtain ⟨u, _, rfl⟩ := hx
  rfl
theorem table_any (c : UInt8) (w : World) : Calls Try.prog 92 #[.int .u8 (bv c)] w fun e w' => e = .returned (.agg (tab c 16 16)) ∧ Below w.heap.size w w' := by
  have hR0 := Blk.new w 132 zeros32
  have hT0 : Blk ((w.alloc (.cells zeros32 132)).alloc (.cells zeros32 132)) (w.heap.size + 1) 132 (tab c 1 1) := by
    have := Blk.new (w.alloc (.cells zeros32 132)) 132 zeros32
    rw [World.size_alloc] at this
    rw [← zeros32_tab c]
    exact this
  have hR1 := hR0.alloc (.cells zeros32 132)
  have hB1 : Below w.heap.size w ((w.alloc (.cells zeros32 132)).alloc (.cells zeros32 132)) := by go_grown
  rw [zeros32_eq] at hT0 hR1 hB1
  clear hR0
  go_enter Try.func92, Try.ntmps92
  go_wp2
  go_loopw [4, 5, 6, 7, 8, 9] (fun _ _ _ _ _ i wr => ∃ k : Nat, k ≤ 4 ∧ i = .int .i64 k ∧ Blk wr (w.heap.size + 1) 132 (tab c (2 ^ k) (2 ^ k)) ∧ Blk wr w.heap.size 132 zeros32 ∧ Below w.heap.size w wr) (fun _ _ _ _ _ i _ => 4 - (intOf i).toNat)
  case atStart => exact ⟨0, by omega, rfl, hT0, hR1, hB1⟩
  case round =>
    obtain ⟨k, hk, rfl, hT, hR, hb⟩ := hrel
    clear hT0 hR1 hB1
    have hz := hb.size
    have hTl := hT.lt
    by_cases hlt : k < 4
    · have hx := nat_xor_add k
      obtain ⟨q, hq⟩ : ∃ q : Nat, 2 ^ k = q := ⟨_, rfl⟩
      have e2 : wrap64 ((2 : Int) ^ k) = (q : Int) := by
        have : ((2 : Int) ^ k) = ((2 ^ k : Nat) : Int) := by simp
        have h8 : 2 ^ k ≤ 2 ^ 3 := Nat.pow_le_pow_right (by omega) (by omega)
        rw [this, hq]
        rw [hq] at h8
        exact IntWalk.wrap64_in _ (by omega)
      have q1 : 1 ≤ q := by rw [← hq]; exact Nat.pos_of_ne_zero (by simp)
      have q8 : q ≤ 8 := by rw [← hq]; exact (Nat.pow_le_pow_right (by omega) (by omega) : 2 ^ k ≤ 2 ^ 3)
      have Hq : Hid (2 ^ (k + 1) = q + q) := Lib.hid (by rw [Nat.pow_succ, hq]; omega)
      rw [hq] at hT hx
      have Hx := Lib.hid hx
      clear hx hq
      have hqb : bv (ob q) = (q : Int) := bv_ob q (by omega)
      have hqc : bv (ob (16 * q)) = (q : Int) * 16 := by rw [bv_ob (16 * q) (by omega)]; omega
      go_wp2_with fail
      go_call (mul2 c (ob q)) as e w' ⟨rfl, rfl⟩
      go_wp2_with fail
      go_call (mul2 c (ob (16 * q))) as e w' ⟨rfl, rfl⟩
      go_wp2_with fail
      have hT1 := (hT.alloc (.cells #[.int .u8 (bv c), .int .u8 (q : Int)] 5)).alloc (.cells #[.int .u8 (bv c), .int .u8 ((q : Int) * 16)] 5)
      have hR1 := (hR.alloc (.cells #[.int .u8 (bv c), .int .u8 (q : Int)] 5)).alloc (.cells #[.int .u8 (bv c), .int .u8 ((q : Int) * 16)] 5)
      have hb1 : Below w.heap.size w ((wr.alloc (.cells #[.int .u8 (bv c), .int .u8 (q : Int)] 5)).alloc (.cells #[.int .u8 (bv c), .int .u8 ((q : Int) * 16)] 5)) := by go_grown
      go_loopw [8, 26] (fun _ i wi => ∃ j : Nat, j ≤ q ∧ i = .int .i64 j ∧ Blk wi (w.heap.size + 1) 132 (tab c (q + j) (q + j)) ∧ Blk wi w.heap.size 132 zeros32 ∧ Below w.heap.size w wi) (fun _ i _ => q - (intOf i).toNat)
      case atStart => exact ⟨0, by omega, rfl, hT1, hR1, hb1⟩
      case round =>
        clear hT hR hT1 hR1 hb1 hTl hb hz
        obtain ⟨j, hj, rfl, hT, hR, hb⟩ := hrel
        have hz := hb.size
        have hTl := hT.lt
        have hTl2 : w.heap.size < wr.heap.size := by omega
        by_cases hjq : j < q
        · obtain ⟨x1, x2⟩ := Hx.out j hlt hjq
          have X1 : Hid (gm c (ob q) ^^^ gm c (ob j) = gm c (ob (q + j))) := Lib.hid (by rw [← gm_xor_right, x1])
          have X2 : Hid (gm c (ob (16 * q)) ^^^ gm c (ob (16 * j)) = gm c (ob (16 * (q + j)))) := Lib.hid (by rw [← gm_xor_right, x2])
          clear x1 x2
          have f1 := (hT.cell j).trans (tab_low (c := c) (m := q + j) (m' := q + j) (by omega) (by omega))
          have f3 := (hT.cell (16 + j)).trans (tab_high (c := c) (m := q + j) (m' := q + j) (by omega) (by omega))
          obtain ⟨v2, hv2⟩ := tab_some (c := c) (m := q + j) (m' := q + j) (i := q + j) (by omega)
          have f2 := (hT.cell (q + j)).trans hv2
          have g2 := hT.frozen (q + j)
          have hTs := hT.set (q + j) (.int .u8 (bv (gm c (ob (q + j)))))
          have f5 := (hTs.cell (16 + (q + j))).trans (by rw [tab_set_low (by omega)])
          obtain ⟨v5, hv5⟩ := tab_some (c := c) (m := q + j + 1) (m' := q + j) (i := 16 + (q + j)) (by omega)
          have f6 := f5.trans hv5
          have g6 := hTs.frozen (16 + (q + j))
          clear hv2 hTs f5 hv5
          go_wp2_with fail
          go_call (add2_eq X1.out) as e w' ⟨rfl, rfl⟩
          go_wp2_with fail
          go_call (add2_eq X2.out) as e w' ⟨rfl, rfl⟩
          have hT2 := (hT.set (q + j) (.int .u8 (bv (gm c (ob (q + j)))))).set (16 + (q + j)) (.int .u8 (bv (gm c (ob (16 * (q + j))))))
          rw [tab_set_low (by omega), tab_set_high (by omega)] at hT2
          have hR2 := (hR.far (p := ⟨w.heap.size + 1, q + j, none⟩) (by simp) (.int .u8 (bv (gm c (ob (q + j)))))).far (p := ⟨w.heap.size + 1, 16 + (q + j), none⟩) (by simp) (.int .u8 (bv (gm c (ob (16 * (q + j))))))
          have hT3 : Hid (Blk _ _ _ (tab c (q + (j + 1)) (q + (j + 1)))) := Lib.hid hT2
          have hR3 := Lib.hid hR2
          clear hT2 hR2
          go_wp2_with fail
          go_roundw
          case rel => exact ⟨j + 1, by omega, by go_num, (hT3.out.alloc _).alloc _, (hR3.out.alloc _).alloc _, by go_grown⟩
          case measure => simp [intOf]; omega
        · obtain rfl : j = q := by omega
          go_wp2_with fail
          go_roundw
          case rel => exact ⟨k + 1, by omega, by go_num, by rw [Hq.out]; exact hT, hR, hb⟩
          case measure => simp [intOf]; omega
    · obtain rfl : k = 4 := by omega
      have hi : (Try.prog.info? 132).map (·.size) = some (tab c 16 16).size := by rw [tab_size]; kernel_rfl
      have H1 := Lib.hid (hT : Blk wr (w.heap.size + 1) 132 (tab c 16 16))
      have Hi := Lib.hid hi
      clear hi hT
      have H2 := Lib.hid (hR.row (tab c 16 16))
      have H3 := below_setRow hb (Nat.le_refl _) (tab c 16 16)
      go_wp2_with (first | (refine wpList_load_row rfl 132 (.tmp 3) rfl (w.heap.size + 1) rfl 132 (tab c 16 16) (0, 0) _ H1.out Try.underlying132 rfl Hi.out ?_) | (refine wpList_store_row rfl 132 (.tmp 2) (.tmp 55) rfl w.heap.size (tab c 16 16) rfl rfl 132 zeros32 hR Hi.out (by rw [tab_size]; rfl) (tab_one _ _ _) ?_))
      refine bodyPost_ret (results_cell_row rfl _ _ w.heap.size 132 (tab c 16 16) (0, 0) _ rfl H2.out Try.underlying132 rfl Hi.out) rfl ⟨rfl, H3⟩

/-! ### add -/
def addTo (c : UInt8) (us ss : List UInt8) (k : Nat) : List UInt8 := ss.mapIdx fun i s => if i < k then s ^^^ gm c (us[i]?.getD 0) else s
theorem addTo_zero (c : UInt8) (us ss : List UInt8) : addTo c us ss 0 = ss := by
  apply List.ext_getElem?; intro i; simp [addTo]
theorem addTo_length (c : UInt8) (us ss : List UInt8) (k : Nat) : (addTo c us ss k).length = ss.length := by simp [addTo]
theorem addTo_get (c : UInt8) (us ss : List UInt8) (k : Nat) (h : k < ss.length) : (addTo c us ss k)[k]? = some (ss[k]?.getD 0) := by simp [addTo, h]
theorem addTo_succ (c : UInt8) (us ss : List UInt8) (k : Nat) (h : k < ss.length) : (addTo c us ss k).set k (ss[k]?.getD 0 ^^^ gm c (us[k]?.getD 0)) = addTo c us ss (k + 1) := by
  apply List.ext_getElem?
  intro i
  rw [List.getElem?_set]
  by_cases he : k = i
  · subst he; simp [addTo, h]
  · rw [if_neg he]
    simp only [addTo, List.getElem?_mapIdx]
    by_cases hi : i < k
    · rw [show (fun s => if i < k then s ^^^ gm c (us[i]?.getD 0) else s) = (fun s => if i < k + 1 then s ^^^ gm c (us[i]?.getD 0) else s) by funext s; rw [if_pos hi, if_pos (by omega)]]
    · rw [show (fun s => if i < k then s ^^^ gm c (us[i]?.getD 0) else s) = (fun s => if i < k + 1 then s ^^^ gm c (us[i]?.getD 0) else s) by funext s; rw [if_neg hi, if_neg (by omega)]]
/-- What is there, and c times another row. -/
def addL (c : UInt8) (us ss : List UInt8) : List UInt8 := addTo c us ss ss.length
theorem halves (u : UInt8) : ob (u.toNat % 16) ^^^ ob (16 * (u.toNat / 16)) = u :=
  of_decide_eq_true (all_u8 (P := fun u => decide (ob (u.toNat % 16) ^^^ ob (16 * (u.toNat / 16)) = u)) (by decide +kernel) u)
theorem halves_gm (c u : UInt8) : gm c (ob (u.toNat % 16)) ^^^ gm c (ob (16 * (u.toNat / 16))) = gm c u := by rw [← gm_xor_right, halves]
theorem and15_b (u : UInt8) : bits .and .u8 (bv u) 15 = ((u.toNat % 16 : Nat) : Int) := by
  rw [u8_and15 _ (bv_nn u) (bv_lt u)]; simp [bv]
theorem div16_b (u : UInt8) : bv u / 16 = ((u.toNat / 16 : Nat) : Int) := by simp [bv]
theorem kadd_any {B : Nat} {A : Option Addr} {n c2 g : Nat} (c : UInt8) {us ss : List UInt8} {w : World} (h : Rd w B A n us) (hB : B ≤ w.heap.size) (hg : Blk w g 5 (bvs ss).toArray) (hBg : B ≤ g) (hs : ss.length = n) (hn : n ≤ 9223372036854775807) :
    Calls Try.prog 72 #[.slice (some ⟨g, 0, none⟩) n n, .int .u8 (bv c), .slice A n c2] w fun e w' => e = .returned (.tuple #[]) ∧ Blk w' g 5 (bvs (addL c us ss)).toArray ∧ w.grownBy w' (some g) := by
  have Hs := Lib.hid hs
  clear hs
  have hgl := hg.lt
  have htn : (Try.prog.info? 132).map (·.size) = some (tab c 16 16).size := by rw [tab_size]; kernel_rfl
  have Hi := Lib.hid htn
  clear htn
  go_enter Try.func72, Try.ntmps72
  go_wp2_with fail
  refine (table_any c w).mono ?_
  rintro e w1 ⟨rfl, hb1⟩
  have hz1 := hb1.size
  have hT0 := Blk.new w1 132 zeros32
  rw [zeros32_eq] at hT0
  go_wp2_with (refine wpList_store_row rfl 132 (.tmp 6) (.tmp 10) rfl w1.heap.size (tab c 16 16) rfl rfl 132 _ hT0 Hi.out (by rw [tab_size]; rfl) (tab_one _ _ _) ?_)
  have hT1 := hT0.row (tab c 16 16)
  have hG1 := ((hg.below hb1 hgl).alloc (.cells #[.int .u8 0, .int .u8 0, .int .u8 0, .int .u8 0, .int .u8 0, .int .u8 0, .int .u8 0, .int .u8 0, .int .u8 0, .int .u8 0, .int .u8 0, .int .u8 0, .int .u8 0, .int .u8 0, .int .u8 0, .int .u8 0, .int .u8 0, .int .u8 0, .int .u8 0, .int .u8 0, .int .u8 0, .int .u8 0, .int .u8 0, .int .u8 0, .int .u8 0, .int .u8 0, .int .u8 0, .int .u8 0, .int .u8 0, .int .u8 0, .int .u8 0, .int .u8 0] 132)).rowfar (g2 := w1.heap.size) (by omega) (tab c 16 16)
  have hW1 := grown_of_below (below_setRow (hb1.alloc hz1 (.cells #[.int .u8 0, .int .u8 0, .int .u8 0, .int .u8 0, .int .u8 0, .int .u8 0, .int .u8 0, .int .u8 0, .int .u8 0, .int .u8 0, .int .u8 0, .int .u8 0, .int .u8 0, .int .u8 0, .int .u8 0, .int .u8 0, .int .u8 0, .int .u8 0, .int .u8 0, .int .u8 0, .int .u8 0, .int .u8 0, .int .u8 0, .int .u8 0, .int .u8 0, .int .u8 0, .int .u8 0, .int .u8 0, .int .u8 0, .int .u8 0, .int .u8 0, .int .u8 0] 132)) hz1 (tab c 16 16)) (some g)
  clear hT0
  have hgT : g < w1.heap.size := by omega
  generalize w1.heap.size = T at *
  go_loopw [13] (fun i wr => ∃ k : Nat, k ≤ n ∧ i = .int .i64 k ∧ Blk wr g 5 (bvs (addTo c us ss k)).toArray ∧ Blk wr T 132 (tab c 16 16) ∧ w.grownBy wr (some g)) (fun i _ => n - (intOf i).toNat)
  case atStart => exact ⟨0, by omega, rfl, by rw [addTo_zero]; exact hG1, hT1, hW1⟩
  case round =>
    clear hT1 hG1 hW1
    obtain ⟨k, hk, rfl, hG, hT, hW⟩ := hrel
    by_cases hlt : k < n
    · obtain ⟨b, off, rfl, hbB, hc⟩ := (h.grown hW hB hBg).at_ hlt
      obtain ⟨u, hu⟩ : ∃ u, us[k]?.getD 0 = u := ⟨_, rfl⟩
      obtain ⟨s, hsu⟩ : ∃ s, ss[k]?.getD 0 = s := ⟨_, rfl⟩
      have hkl : k < ss.length := by rw [Hs.out]; exact hlt
      have Hset := Lib.hid (addTo_succ c us ss k hkl)
      have hcs := (hG.cell k).trans (by simpa using bvs_get _ _ _ (addTo_get c us ss k hkl))
      have hfs := hG.frozen k
      rw [hu, hsu] at Hset
      rw [hsu] at hcs
      rw [hu] at hc
      clear hu hsu
      have E1 := and15_b u
      have E2 := div16_b u
      have E3 := halves_gm c u
      have lo16 : u.toNat % 16 < 16 := by omega
      have hi16 : u.toNat / 16 < 16 := by have := u.toNat_lt; omega
      have l1 := (hT.cell (u.toNat % 16)).trans (tab_low (c := c) (m := 16) (m' := 16) lo16 lo16)
      have l2 := (hT.cell (16 + u.toNat / 16)).trans (tab_high (c := c) (m := 16) (m' := 16) hi16 hi16)
      generalize u.toNat % 16 = lo at *
      generalize u.toNat / 16 = hi at *
      have h0 := bv_nn u
      have h1 := bv_lt u
      have E3' : bv (gm c (ob lo) ^^^ gm c (ob (16 * hi))) = bv (gm c u) := by rw [E3]
      clear E3
      have hG2 := hG.set k (.int .u8 (bv (s ^^^ gm c u)))
      rw [bvs_set, Hset.out] at hG2
      have HG2 := Lib.hid hG2
      clear hG2
      go_wp2_with fail
      go_region
      go_wp2_with fail
      go_roundw
      case rel => exact ⟨k + 1, by omega, by go_num, HG2.out.drew, (hT.far (p := ⟨g, k, none⟩) (by simp; omega) _).drew, grown_drew (grown_setCell hW _)⟩
      case measure => simp [intOf]; omega
    · obtain rfl : k = n := by omega
      have hG2 : Hid (Blk wr g 5 (bvs (addL c us ss)).toArray) := Lib.hid (by unfold addL; rw [Hs.out]; exact hG)
      clear hG
      go_wp2_with fail
      go_end0
      exact ⟨rfl, hG2.out, hW⟩

/-! ### Scale and Axpy -/
theorem addL_nulls (c : UInt8) (us : List UInt8) (n : Nat) (h : us.length = n) : addL c us (nulls n) = scaleL c us := by
  apply List.ext_getElem?
  intro i
  unfold addL addTo scaleL
  rw [nulls_length, List.getElem?_mapIdx, List.getElem?_map]
  by_cases hi : i < n
  · simp [nulls, hi, h]
  · simp [nulls, hi, h]
theorem kscale_any {B : Nat} {A : Option Addr} {n c : Nat} (x : UInt8) {us : List UInt8} {w : World} (h : Rd w B A n us) (hB : B ≤ w.heap.size) (hn : n ≤ 140737488355328) :
    Calls Try.prog 87 #[.int .u8 (bv x), .slice A n c] w fun e w' => ∃ g, e = .returned (.slice (some ⟨g, 0, none⟩) n n) ∧ w.heap.size ≤ g ∧ Blk w' g 5 (bvs (scaleL x us)).toArray ∧ Below w.heap.size w w' := by
  have hmk := make_bytes n hn
  have h1 := h.keep (w' := w.alloc (.cells (bvs (nulls n)).toArray 5)) (fun p hp => World.cell?_alloc_lt w _ p (by omega))
  have hg := Blk.new w 5 (bvs (nulls n)).toArray
  have Hl := Lib.hid (addL_nulls x us n h.1)
  go_enter Try.func87, Try.ntmps87
  go_wp2_with fail
  refine (kadd_any x h1 (by simp; omega) hg hB (nulls_length n) (by omega)).mono ?_
  rintro e w1 ⟨rfl, hg1, hw1⟩
  rw [Hl.out] at hg1
  go_wp2_with fail
  go_ret
  exact ⟨w.heap.size, rfl, Nat.le_refl _, hg1, ((Below.refl _ _).alloc (Nat.le_refl _) _).trans (grown_below hw1 (by simp) (Nat.le_refl _))⟩

end Go.Proofs.Ytaidbcppecoenaa

