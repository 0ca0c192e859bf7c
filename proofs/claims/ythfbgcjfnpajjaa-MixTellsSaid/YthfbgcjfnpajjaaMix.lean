import Derived.Test.YthfbgcjfnpajjaaMixM
import Derived.Test.YthfbgcjfnpajjaaKern
/- What the functions of package mix, and the document's own answer for them, come to. -/
namespace Go.Proofs.Ythfbgcjfnpajjaa
open Go.RowKit
set_option linter.unusedVariables false
set_option maxRecDepth 100000

/-- A generator of state s lies in block g. -/
def MAt (w : World) (g s : Nat) : Prop := Blk w g 46 #[.int .u64 (uv s)]
theorem MAt.lt {w : World} {g s : Nat} (h : MAt w g s) : g < w.heap.size := Blk.lt h
theorem MAt.below {w w' : World} {B g s : Nat} (h : MAt w g s) (hb : Below B w w') (hg : g < B) : MAt w' g s := Blk.below h hb hg
theorem MAt.step {w w' : World} {g s : Nat} (h : MAt w g s) (hb : Below w.heap.size w w') : MAt w' g s := Blk.below h hb h.lt
theorem MAt.grown {w w' : World} {g s k : Nat} (h : MAt w g s) (hb : w.grownBy w' (some k)) (hg : g ≠ k) : MAt w' g s := Blk.grown h hb (by simpa using hg)
theorem MAt.cell {w : World} {g s : Nat} (h : MAt w g s) : w.cell? ⟨g, 0, none⟩ = some (.int .u64 (uv s)) ∧ w.frozen? ⟨g, 0, none⟩ = false :=
  ⟨by rw [Blk.cell h]; rfl, Blk.frozen h 0⟩
theorem stirred_any (z : Nat) (hz : z < 18446744073709551616) (w : World) : Calls Try.prog 19 #[.int .u64 (uv z)] w fun e w' => e = .returned (.int .u64 (uv (stir z))) ∧ w = w' := by
  have h0 := uv_nn z
  have e1 : bits .xor .u64 (uv z) (uv z / 1073741824) = uv (xs 30 z) := bits_xs 30 hz
  have e2 := wrap_m1 (xs 30 z)
  have e3 : bits .xor .u64 (uv (m1 (xs 30 z))) (uv (m1 (xs 30 z)) / 134217728) = uv (xs 27 (m1 (xs 30 z))) := bits_xs 27 (m1_lt _)
  have e4 := wrap_m2 (xs 27 (m1 (xs 30 z)))
  have e5 : bits .xor .u64 (uv (m2 (xs 27 (m1 (xs 30 z))))) (uv (m2 (xs 27 (m1 (xs 30 z)))) / 2147483648) = uv (xs 31 (m2 (xs 27 (m1 (xs 30 z))))) := bits_xs 31 (m2_lt _)
  go_enter Try.func19, Try.ntmps19
  go_wp2_with fail
  go_ret
  exact ⟨rfl, rfl⟩
theorem next_any (g s : Nat) (w : World) (hg : MAt w g s) : Calls Try.prog 10 #[.pointer (some ⟨g, 0, none⟩)] w fun e w' => e = .returned (.int .u64 (uv (stir (st s 1)))) ∧ MAt w' g (st s 1) ∧ w.grownBy w' (some g) := by
  obtain ⟨c1, c2⟩ := hg.cell
  have e1 := wrap_st s
  have hl := Lib.hid (st_lt s 1)
  have hG := Lib.hid hg
  have hlt := hg.lt
  clear hg
  generalize st s 1 = s2 at *
  go_enter Try.func10, Try.ntmps10
  go_wp2_with fail
  refine (stirred_any s2 hl.out _).mono ?_
  rintro e w' ⟨rfl, rfl⟩
  go_wp2_with fail
  go_ret
  refine ⟨rfl, ?_, grown_setCell (World.grownBy.refl _ _) _⟩
  have := Blk.set hG.out 0 (.int .u64 (uv s2))
  simpa [MAt] using this
theorem new_any (s : Nat) (w : World) : Calls Try.prog 8 #[.int .u64 (uv s)] w fun e w' => ∃ g, e = .returned (.pointer (some ⟨g, 0, none⟩)) ∧ MAt w' g s ∧ w.heap.size ≤ g ∧ Below w.heap.size w w' := by
  go_enter Try.func8, Try.ntmps8
  go_wp2_with fail
  go_ret
  exact ⟨_, rfl, Blk.new _ _ _, Nat.le_refl _, by go_grown⟩
theorem clone_any (g s : Nat) (w : World) (hg : MAt w g s) : Calls Try.prog 9 #[.pointer (some ⟨g, 0, none⟩)] w fun e w' => ∃ k, e = .returned (.pointer (some ⟨k, 0, none⟩)) ∧ MAt w' k s ∧ w.heap.size ≤ k ∧ Below w.heap.size w w' := by
  obtain ⟨c1, c2⟩ := hg.cell
  have hlt := hg.lt
  clear hg
  go_enter Try.func9, Try.ntmps9
  go_wp2_with fail
  refine (new_any s _).mono ?_
  rintro e w' ⟨k, rfl, h1, h2, h3⟩
  go_wp2_with fail
  go_ret
  exact ⟨_, rfl, h1, h2, h3⟩
/-! ### Bytes -/
theorem bytes_no (p : Addr) (n : Int) (hn : n < 0 ∨ 65536 < n) (w : World) : Calls Try.prog 12 #[.pointer (some p), .int .i64 n] w fun e w' => e = .returned (.tuple #[.slice none 0 0, .int .i64 2]) ∧ w = w' := by
  rcases hn with h | h
  · go_enter Try.func12, Try.ntmps12
    go_wp2_with fail
    go_ret2
    exact ⟨rfl, rfl⟩
  · have h2 : ¬ n < 0 := by omega
    go_enter Try.func12, Try.ntmps12
    go_wp2_with fail
    go_ret2
    exact ⟨rfl, rfl⟩
/-- What is left of the last number that was begun. -/
def LeftOf (s i x : Nat) : Prop := x < 18446744073709551616 ∧ (i % 8 ≠ 0 → x = stir (st s (i / 8 + 1)) / 256 ^ (i % 8))
theorem LeftOf.start (s : Nat) : LeftOf s 0 0 := ⟨by decide, fun h => absurd rfl h⟩
theorem LeftOf.next {s i x : Nat} (h : x = stir (st s (i / 8 + 1)) / 256 ^ (i % 8)) (hx : x < 18446744073709551616) : LeftOf s (i + 1) (x / 256) := by
  refine ⟨by omega, fun h8 => ?_⟩
  rw [show (i + 1) / 8 = i / 8 by omega, show (i + 1) % 8 = i % 8 + 1 by omega, Nat.pow_succ, ← Nat.div_div_eq_div_mul, ← h]
theorem mix_step {s i n : Nat} (h : i < n) : (mixL s i ++ nulls (n - i)).set i (bt s i) = mixL s (i + 1) ++ nulls (n - (i + 1)) := by
  rw [set_front _ _ _ (by omega) (mixL_length s i), mixL_succ, show n - i - 1 = n - (i + 1) by omega]
theorem grown_new {a w : World} {row : Option Nat} (h : a.grownBy w row) {p : Addr} (hp : a.heap.size ≤ p.block) (u : Value) : a.grownBy (w.setCell p u) row :=
  ⟨h.os, h.tape, h.output, by simpa [World.setCell] using h.size, fun k hk hr => (Below.heap_setCell w p u k (by omega)).trans (h.block k hk hr)⟩
set_option maxHeartbeats 1000000 in
theorem bytes_any (g s n : Nat) (hn : n ≤ 65536) (w : World) (hs : s < 18446744073709551616) (hg : MAt w g s) : Calls Try.prog 12 #[.pointer (some ⟨g, 0, none⟩), .int .i64 n] w fun e w' => ∃ k, e = .returned (.tuple #[.slice (some ⟨k, 0, none⟩) n n, .int .i64 0]) ∧ Blk w' k 5 (bvs (mixL s n)).toArray ∧ w.heap.size ≤ k ∧ MAt w' g (st s ((n + 7) / 8)) ∧ w.grownBy w' (some g) := by
  have hgl := hg.lt
  have hmk := make_bytes n (by omega) w
  have hk0 : Blk (w.alloc (.cells (bvs (nulls n)).toArray 5)) w.heap.size 5 (bvs (mixL s 0 ++ nulls (n - 0))).toArray := by
    have := Blk.new w 5 (bvs (nulls n)).toArray
    simpa [mixL] using this
  have hg0 : MAt (w.alloc (.cells (bvs (nulls n)).toArray 5)) g (st s ((0 + 7) / 8)) := by
    have := hg.step (balloc w (.cells (bvs (nulls n)).toArray 5))
    rw [show (0 + 7) / 8 = 0 from rfl, st_zero hs]
    exact this
  have hgr0 : w.grownBy (w.alloc (.cells (bvs (nulls n)).toArray 5)) (some g) := World.grownBy_alloc _ _ _
  have HS := Lib.hid hs
  have HM := Lib.hid hmk
  have Hk0 := Lib.hid hk0
  have Hg0 := Lib.hid hg0
  clear hs hk0 hg0 hg hmk
  have hmk2 := HM.out
  go_enter Try.func12, Try.ntmps12
  go_wp2_with fail
  clear hmk2
  go_loopw [7, 21] (fun num c wr => ∃ i x : Nat, i ≤ n ∧ c = .int .i64 i ∧ num = .int .u64 (uv x) ∧ Hid (LeftOf s i x) ∧ Hid (Blk wr w.heap.size 5 (bvs (mixL s i ++ nulls (n - i))).toArray) ∧ Hid (MAt wr g (st s ((i + 7) / 8))) ∧ w.grownBy wr (some g)) (fun _ c _ => n - (intOf c).toNat)
  case atStart => exact ⟨0, 0, by omega, rfl, rfl, Lib.hid (LeftOf.start s), Hk0, Hg0, hgr0⟩
  case round =>
    clear Hk0 Hg0 hgr0
    obtain ⟨i, x, hi, rfl, rfl, HL, HB, HG, hgr⟩ := hrel
    by_cases hlt : i < n
    · have hf := (HB.out).frozen i
      have hsz := (HB.out).lt
      have hcl : wr.cell? ⟨w.heap.size, i, none⟩ = some (.int .u8 (bv 0)) := by
        rw [(HB.out).cell i]
        have := bvs_get (mixL s i ++ nulls (n - i)) i 0 (by rw [List.getElem?_append_right (by rw [mixL_length]; omega), mixL_length, Nat.sub_self, nulls, List.getElem?_replicate, if_pos (by omega)])
        simpa using this
      have hne : g ≠ w.heap.size := by omega
      have Hms := Lib.hid (mix_step (s := s) hlt)
      by_cases h8 : i % 8 = 0
      · have t : (((i : Int) % 8) == 0) = true := by simp; omega
        have hxe : stir (st s (i / 8 + 1)) = stir (st s (i / 8 + 1)) / 256 ^ (i % 8) := by rw [h8]; simp
        have hN := next_any g (st s ((i + 7) / 8)) wr HG.out
        rw [st_st, show (i + 7) / 8 + 1 = i / 8 + 1 by omega] at hN
        have ux := uv_byte s i _ hxe
        have hxl := stir_lt (st_lt s (i / 8 + 1))
        have Hst := Lib.hid (show st s ((i + 1 + 7) / 8) = st s (i / 8 + 1) by rw [show (i + 1 + 7) / 8 = i / 8 + 1 by omega])
        have Hx := Lib.hid (LeftOf.next hxe hxl)
        clear hxe h8
        go_wp2_with fail
        refine hN.mono ?_
        rintro e w1 ⟨rfl, n1, n2⟩
        have hB1 := (HB.out).grown n2 (by simpa using hne.symm)
        have HB1 := Lib.hid hB1
        have hf1 := hB1.frozen i
        have hsz1 := hB1.lt
        have hcl1 := n2.cell hcl (by simpa using hne.symm)
        have gr1 := grown_trans hgr n2
        have N1 := Lib.hid n1
        clear hN hB1 hcl hf hsz hgr n2 n1
        generalize stir (st s (i / 8 + 1)) = x1 at *
        have u0 := uv_nn x1
        have u1 := uv_le hxl
        go_wp2_with fail
        go_roundw
        case rel => exact ⟨i + 1, x1 / 256, by omega, by go_num, by simp [uv], Hx, Lib.hid (by rw [← Hms.out, ← bvs_set]; exact (HB1.out).set i _), Lib.hid (by rw [Hst.out]; exact Blk.far N1.out hne _), grown_new gr1 (Nat.le_refl _) _⟩
        case measure => simp [intOf]; omega
      · have t : (((i : Int) % 8) == 0) = false := by simp; omega
        have hx := HL.out.2 h8
        have ux := uv_byte s i x hx
        have Hx := Lib.hid hx
        have Hst := Lib.hid (show st s ((i + 1 + 7) / 8) = st s ((i + 7) / 8) by rw [show (i + 1 + 7) / 8 = (i + 7) / 8 by omega])
        clear hx h8
        have hxl := HL.out.1
        have u0 := uv_nn x
        have u1 := uv_le hxl
        go_wp2_with fail
        go_roundw
        case rel => exact ⟨i + 1, x / 256, by omega, by go_num, by simp [uv], Lib.hid (LeftOf.next Hx.out hxl), Lib.hid (by rw [← Hms.out, ← bvs_set]; exact (HB.out).set i _), Lib.hid (by rw [Hst.out]; exact Blk.far HG.out hne _), grown_new hgr (Nat.le_refl _) _⟩
        case measure => simp [intOf]; omega
    · obtain rfl : i = n := by omega
      go_wp2_with fail
      go_ret2
      refine ⟨_, rfl, ?_, Nat.le_refl _, HG.out, hgr⟩
      have := HB.out
      rwa [Nat.sub_self, show nulls 0 = [] from rfl, List.append_nil] at this
end Go.Proofs.Ythfbgcjfnpajjaa
