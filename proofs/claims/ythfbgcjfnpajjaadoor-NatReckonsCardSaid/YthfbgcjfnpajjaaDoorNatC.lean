import Derived.Test.YthfbgcjfnpajjaaDoorNatB
import Derived.Test.YthfbgcjfnpajjaaDoorLen64
/- nat.Cmp, nat.Len, nat.Sub. -/
namespace Go.Proofs.YthfbgcjfnpajjaaDoor
open Go.RowKit
set_option linter.unusedVariables false
set_option maxRecDepth 100000

/-- -1, 0, 1. -/
def cmpN (x y : Nat) : Int := if x < y then -1 else if y < x then 1 else 0
theorem cmpN_lt {x y : Nat} (h : x < y) : cmpN x y = -1 := by unfold cmpN; rw [if_pos h]
theorem cmpN_gt {x y : Nat} (h : y < x) : cmpN x y = 1 := by unfold cmpN; rw [if_neg (by omega), if_pos h]
theorem cmpN_eq (x : Nat) : cmpN x x = 0 := by unfold cmpN; rw [if_neg (by omega), if_neg (by omega)]
theorem compare_int (x y : Nat) (w : World) : Calls Tryd.prog 33 #[.int .i64 x, .int .i64 y] w fun e w' => e = .returned (.int .i64 (cmpN x y)) ∧ w = w' := by
  rcases Nat.lt_trichotomy x y with h | h | h
  · have e := Lib.hid (cmpN_lt h)
    go_enter Tryd.func33, Tryd.ntmps33
    go_wp2
    all_goals (go_ret; exact ⟨by rw [e.out]; rfl, rfl⟩)
  · subst h
    have e := Lib.hid (cmpN_eq x)
    go_enter Tryd.func33, Tryd.ntmps33
    go_wp2
    all_goals (go_ret; exact ⟨by rw [e.out]; rfl, rfl⟩)
  · have e := Lib.hid (cmpN_gt h)
    go_enter Tryd.func33, Tryd.ntmps33
    go_wp2
    all_goals (go_ret; exact ⟨by rw [e.out]; rfl, rfl⟩)
theorem compare_u64 (x y : Nat) (w : World) : Calls Tryd.prog 34 #[.int .u64 (uv x), .int .u64 (uv y)] w fun e w' => e = .returned (.int .i64 (cmpN x y)) ∧ w = w' := by
  rcases Nat.lt_trichotomy x y with h | h | h
  · have e := Lib.hid (cmpN_lt h)
    have h1 : uv x < uv y := by unfold uv; omega
    clear h
    go_enter Tryd.func34, Tryd.ntmps34
    go_wp2
    all_goals (go_ret; exact ⟨by rw [e.out]; rfl, rfl⟩)
  · subst h
    have e := Lib.hid (cmpN_eq x)
    go_enter Tryd.func34, Tryd.ntmps34
    go_wp2
    all_goals (go_ret; exact ⟨by rw [e.out]; rfl, rfl⟩)
  · have e := Lib.hid (cmpN_gt h)
    have h1 : uv y < uv x := by unfold uv; omega
    have h2 : ¬ uv x < uv y := by omega
    clear h
    go_enter Tryd.func34, Tryd.ntmps34
    go_wp2
    all_goals (go_ret; exact ⟨by rw [e.out]; rfl, rfl⟩)
theorem cmp_walk {A A2 : Option Addr} {n n2 c c2 : Nat} {a b : List Nat} {w : World} (h : Wd w w.heap.size A n a) (h2 : Wd w w.heap.size A2 n2 b) (ha : Canon a) (hb : Canon b) (hn : n ≤ 512) (hn2 : n2 ≤ 512) :
    Calls Tryd.prog 18 #[.agg #[.slice A n c], .agg #[.slice A2 n2 c2]] w fun e w' => e = .returned (.int .i64 (cmpN (num W64 a) (num W64 b))) ∧ Below w.heap.size w w' := by
  have Hla := Lib.hid h.len
  have Hlb := Lib.hid h2.len
  have Hta := Lib.hid h.lts
  have Htb := Lib.hid h2.lts
  have hA := balloc w (.cells #[.slice A n c] 27)
  have hAB := bstep hA (balloc _ (.cells #[.slice A2 n2 c2] 27))
  have gA := (Blk.new w 27 #[.slice A n c]).alloc (.cells #[.slice A2 n2 c2] 27)
  have gB := Blk.new (w.alloc (.cells #[.slice A n c] 27)) 27 #[.slice A2 n2 c2]
  rw [World.size_alloc] at gB
  have C := compare_int n n2 ((w.alloc (.cells #[.slice A n c] 27)).alloc (.cells #[.slice A2 n2 c2] 27))
  by_cases hl : n = n2
  · subst hl
    rw [cmpN_eq] at C
    have HA := Lib.hid gA
    have HBB := Lib.hid gB
    clear gA gB hA
    go_enter Tryd.func18, Tryd.ntmps18
    go_wp2_with fail
    refine C.mono ?_
    rintro e w' ⟨rfl, rfl⟩
    clear C
    generalize (w.alloc (.cells #[.slice A n c] 27)).alloc (.cells #[.slice A2 n c2] 27) = W0 at *
    obtain ⟨z0, _⟩ := blk_cell HA.out
    go_wp2_with fail
    clear z0
    go_loopw [6] (fun v wr => ∃ k : Nat, k ≤ n ∧ v = .int .i64 ((k : Int) - 1) ∧ Hid (a.drop k = b.drop k) ∧ Hid (Blk wr w.heap.size 27 #[.slice A n c]) ∧ Hid (Blk wr (w.heap.size + 1) 27 #[.slice A2 n c2]) ∧ Below w.heap.size w wr) (fun v _ => ((intOf v) + 1).toNat)
    case atStart => exact ⟨n, by omega, rfl, Lib.hid (by rw [List.drop_of_length_le (by rw [Hla.out]; omega), List.drop_of_length_le (by rw [Hlb.out]; omega)]), HA, HBB, hAB⟩
    case round =>
      clear HA HBB hAB
      obtain ⟨k, hk, rfl, hd, HA, HBB, hbel⟩ := hrel
      by_cases hk0 : 0 < k
      · obtain ⟨j, rfl⟩ : ∃ j, k = j + 1 := ⟨k - 1, by omega⟩
        have ej : ((j + 1 : Nat) : Int) - 1 = (j : Int) := by omega
        have ej2 : (j : Int) + 1 - 1 = (j : Int) := by omega
        obtain ⟨b1, o1, rfl, hb1, hc1⟩ := (h.below hbel).at_ (k := j) (by omega)
        obtain ⟨b2, o2, rfl, hb2, hc2⟩ := (h2.below hbel).at_ (k := j) (by omega)
        obtain ⟨z0, _⟩ := blk_cell HA.out
        obtain ⟨z1, _⟩ := blk_cell HBB.out
        have HC := fun X => compare_u64 (dg a j) (dg b j) X
        have hjn : (j : Int) < (n : Int) := by omega
        rcases Nat.lt_trichotomy (dg a j) (dg b j) with hx | hx | hx
        · have hr := Lib.hid (dig_lt W64_pos Hta.out (by rw [Hla.out, Hlb.out]) (by rw [Hla.out]; omega) hd.out hx)
          rw [cmpN_lt hx] at HC
          have hr2 := Lib.hid (cmpN_lt hr.out)
          have HC2 := Lib.hid HC
          clear hx HC
          go_wp2_with fail
          go_quiet ((go_at_call 34; exact Calls.quiet_of_same ((HC2.out _).mono fun _ _ ⟨he, hw⟩ => ⟨he, hw.symm⟩)))
          go_wp2_with fail
          go_ret
          exact ⟨by rw [hr2.out]; rfl, below_drewN hbel _⟩
        · rw [hx, cmpN_eq] at HC
          have hd2 := Lib.hid (drop_pred (by rw [Hla.out, Hlb.out]) (by rw [Hla.out]; omega) hd.out hx)
          rw [hx] at hc1
          have HC2 := Lib.hid HC
          clear hx HC
          go_wp2_with fail
          go_quiet ((go_at_call 34; exact Calls.quiet_of_same ((HC2.out _).mono fun _ _ ⟨he, hw⟩ => ⟨he, hw.symm⟩)))
          go_wp2_with fail
          go_roundw
          case rel => exact ⟨j, by omega, by go_num, hd2, HA, HBB, below_drewN hbel _⟩
          case measure => simp [intOf]
        · have hr := Lib.hid (dig_lt W64_pos Htb.out (by rw [Hla.out, Hlb.out]) (by rw [Hlb.out]; omega) hd.out.symm hx)
          rw [cmpN_gt hx] at HC
          have hr2 := Lib.hid (cmpN_gt hr.out)
          have HC2 := Lib.hid HC
          clear hx HC
          go_wp2_with fail
          go_quiet ((go_at_call 34; exact Calls.quiet_of_same ((HC2.out _).mono fun _ _ ⟨he, hw⟩ => ⟨he, hw.symm⟩)))
          go_wp2_with fail
          go_ret
          exact ⟨by rw [hr2.out]; rfl, below_drewN hbel _⟩
      · obtain rfl : k = 0 := by omega
        have hr := hd.out
        rw [List.drop_zero, List.drop_zero] at hr
        have hr2 : Hid (cmpN (num W64 a) (num W64 b) = 0) := Lib.hid (by rw [hr, cmpN_eq])
        clear hr
        go_wp2_with fail
        go_ret
        exact ⟨by rw [hr2.out]; rfl, hbel⟩
  · by_cases hlt : n < n2
    · have hr := Lib.hid (cmpN_lt (len_lt W64_pos Hta.out hb (by rw [Hla.out, Hlb.out]; exact hlt)))
      rw [cmpN_lt hlt] at C
      clear hl hlt gA gB hA
      go_enter Tryd.func18, Tryd.ntmps18
      go_wp2_with fail
      refine C.mono ?_
      rintro e w' ⟨rfl, rfl⟩
      go_wp2_with fail
      go_ret
      exact ⟨by rw [hr.out]; rfl, hAB⟩
    · have hgt : n2 < n := by omega
      have hr := Lib.hid (cmpN_gt (len_lt W64_pos Htb.out ha (by rw [Hla.out, Hlb.out]; exact hgt)))
      rw [cmpN_gt hgt] at C
      clear hl hlt hgt gA gB hA
      go_enter Tryd.func18, Tryd.ntmps18
      go_wp2_with fail
      refine C.mono ?_
      rintro e w' ⟨rfl, rfl⟩
      go_wp2_with fail
      go_ret
      exact ⟨by rw [hr.out]; rfl, hAB⟩
theorem cmp_any {N M : Nat} {v u : Value} {w : World} (h : NatIs w w.heap.size v N) (h2 : NatIs w w.heap.size u M) :
    Calls Tryd.prog 18 #[v, u] w fun e w' => e = .returned (.int .i64 (cmpN N M)) ∧ Below w.heap.size w w' := by
  obtain ⟨A, n, c, ws, rfl, w1, w2, rfl, w4⟩ := h
  obtain ⟨A2, n2, c2, ws2, rfl, y1, y2, rfl, y4⟩ := h2
  exact cmp_walk w1 y1 w2 y2 w4 y4
/-! ### Len -/
theorem bitLen_bl (x : Nat) (h : x < 2 ^ 64) : BL 2 x (Lib.bitLen x) := by
  induction x using Nat.strongRecOn with
  | _ x ih =>
    by_cases h0 : x = 0
    · subst h0; exact ⟨by decide, .inl (by decide)⟩
    · have h1 := ih (x / 2) (by omega) (by omega)
      rw [Lib.bitLen_half x h0 h]
      obtain ⟨h2, h3⟩ := h1
      refine ⟨by rw [Nat.add_comm, Nat.pow_succ]; omega, .inr ?_⟩
      rw [Nat.add_sub_cancel_left]
      rcases h3 with h3 | h3
      · rw [h3] at h2 ⊢
        simp at h2 ⊢; omega
      · by_cases h4 : Lib.bitLen (x / 2) = 0
        · rw [h4]; simp; omega
        · have : 2 ^ Lib.bitLen (x / 2) = 2 * 2 ^ (Lib.bitLen (x / 2) - 1) := by
            rw [← Nat.pow_succ', Nat.succ_eq_add_one, Nat.sub_add_cancel (by omega)]
          omega
theorem bl_bytes {x r : Nat} (h : BL 2 x r) : BL 256 x ((r + 7) / 8) := by
  have e : ∀ k, 256 ^ k = 2 ^ (8 * k) := fun k => by rw [Nat.pow_mul]
  unfold BL
  rw [e, e]
  refine ⟨Nat.lt_of_lt_of_le h.1 (Nat.pow_le_pow_right (by omega) (by omega)), ?_⟩
  by_cases h0 : (r + 7) / 8 = 0
  · exact .inl h0
  · have := h.2.resolve_left (by omega)
    exact .inr (Nat.le_trans (Nat.pow_le_pow_right (by omega) (by omega)) this)
theorem bl_top {ws : List Nat} {k : Nat} (hb : Below' W64 ws) (hc : Canon ws) (h0 : ws.length ≠ 0) (h : BL 256 (dg ws (ws.length - 1)) k) : BL 256 (num W64 ws) (8 * (ws.length - 1) + k) := by
  have hx := hc.resolve_left h0
  have h1 := num_split W64 (show ws.length - 1 < ws.length by omega)
  rw [List.drop_of_length_le (by omega), num_nil, Nat.mul_zero, Nat.add_zero] at h1
  have h2 := num_lt (below_take hb (ws.length - 1))
  rw [List.length_take, Nat.min_eq_left (by omega)] at h2
  have e : W64 ^ (ws.length - 1) = 256 ^ (8 * (ws.length - 1)) := by rw [Nat.pow_mul]; rfl
  have hk : k ≠ 0 := by
    intro hk
    have := h.1
    rw [hk] at this
    simp at this; omega
  have h3 := h.2.resolve_left hk
  have e2 : 256 ^ (8 * (ws.length - 1) + k) = 256 ^ k * 256 ^ (8 * (ws.length - 1)) := by rw [Nat.pow_add, Nat.mul_comm]
  have e3 : 256 ^ (8 * (ws.length - 1) + k - 1) = 256 ^ (k - 1) * 256 ^ (8 * (ws.length - 1)) := by
    rw [show 8 * (ws.length - 1) + k - 1 = 8 * (ws.length - 1) + (k - 1) by omega, Nat.pow_add, Nat.mul_comm]
  unfold BL
  rw [h1, e2, e3]
  rw [e] at h2 ⊢
  have m1 := Nat.mul_le_mul_right (256 ^ (8 * (ws.length - 1))) (Nat.succ_le_of_lt h.1)
  have m2 := Nat.mul_le_mul_right (256 ^ (8 * (ws.length - 1))) h3
  rw [Nat.succ_mul] at m1
  exact ⟨by omega, .inr (by omega)⟩
theorem len_walk {A : Option Addr} {n c : Nat} {a : List Nat} {w : World} (h : Wd w w.heap.size A n a) (ha : Canon a) (hn : n ≤ 512) :
    Calls Tryd.prog 16 #[.agg #[.slice A n c]] w fun e w' => (∃ k : Nat, e = .returned (.int .i64 k) ∧ BL 256 (num W64 a) k) ∧ Below w.heap.size w w' := by
  by_cases h0 : n = 0
  · subst h0
    have ea : a = [] := List.eq_nil_of_length_eq_zero h.len
    have hr : Hid (BL 256 (num W64 a) 0) := Lib.hid (by rw [ea]; exact ⟨by decide, .inl rfl⟩)
    clear ea h ha
    go_enter Tryd.func16, Tryd.ntmps16
    go_wp2_with fail
    go_ret
    exact ⟨⟨0, rfl, hr.out⟩, by go_grown⟩
  · have hl := h.len
    obtain ⟨j, rfl⟩ : ∃ j, n = j + 1 := ⟨n - 1, by omega⟩
    obtain ⟨b, off, rfl, hb, hc⟩ := h.at_ (k := j) (by omega)
    have hx := dg_lt W64_pos h.lts j
    have hbl := bl_bytes (bitLen_bl (dg a j) hx)
    have hb8 : Lib.bitLen (dg a j) ≤ 64 := Lib.bitLen_le _ 64 (by omega) hx
    have hr : BL 256 (num W64 a) (8 * j + (Lib.bitLen (dg a j) + 7) / 8) := by
      have := bl_top (k := (Lib.bitLen (dg a j) + 7) / 8) h.lts ha (by omega) (by rw [hl, Nat.add_sub_cancel]; exact hbl)
      rwa [hl, Nat.add_sub_cancel] at this
    have HR := Lib.hid hr
    have HL := fun X => len64_nat (dg a j) hx X
    clear hr hbl hl h ha h0
    generalize Lib.bitLen (dg a j) = q at *
    have HL2 := Lib.hid HL
    clear HL hx
    have ej : ((j + 1 : Nat) : Int) - 1 = (j : Int) := by omega
    have ej2 : (j : Int) + 1 - 1 = (j : Int) := by omega
    go_enter Tryd.func16, Tryd.ntmps16
    go_wp2_with fail
    refine (HL2.out _).mono ?_
    rintro e w' ⟨rfl, rfl⟩
    go_wp2_with fail
    go_ret
    exact ⟨⟨8 * j + (q + 7) / 8, ret_int (by omega), HR.out⟩, by go_grown⟩
end Go.Proofs.YthfbgcjfnpajjaaDoor
