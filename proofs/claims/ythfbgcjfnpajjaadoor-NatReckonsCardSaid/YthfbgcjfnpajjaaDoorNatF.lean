import Derived.Test.YthfbgcjfnpajjaaDoorNatE
/- nat.times. -/
namespace Go.Proofs.YthfbgcjfnpajjaaDoor
open Go.RowKit
set_option linter.unusedVariables false
set_option maxRecDepth 100000

theorem run_add0 (x y : Nat) (w : World) : (callFunc 47 #[.int .u64 (uv x), .int .u64 (uv y), .int .u64 0]).run Tryd.prog w =
    .ok (.value (.tuple #[.int .u64 (uv ((x + y) % W64)), .int .u64 (uv ((x + y) / W64))])) w := run_add x y 0 (by omega) w
/-- What one place of a product comes to. -/
theorem place_law {p x y q : Nat} (hp : p < W64) (hx : x < W64) (hy : y < W64) (hq : q < W64) :
    x * y / W64 + (x * y % W64 + q) / W64 < W64 ∧ (p + (x * y % W64 + q) % W64) % W64 < W64 ∧
    x * y / W64 + (x * y % W64 + q) / W64 + (p + (x * y % W64 + q) % W64) / W64 < W64 ∧
    (p + (x * y % W64 + q) % W64) % W64 + (x * y / W64 + (x * y % W64 + q) / W64 + (p + (x * y % W64 + q) % W64) / W64) * W64 = p + x * y + q := by
  have h : x * y ≤ 340282366920938463426481119284349108225 := Nat.mul_le_mul (show x ≤ 18446744073709551615 by unfold W64 at hx; omega) (show y ≤ 18446744073709551615 by unfold W64 at hy; omega)
  generalize x * y = X at *
  unfold W64 at *
  refine ⟨by omega, by omega, by omega, by omega⟩
/-- So far a product's words, behind i rows. -/
def MulRow (a b : List Nat) (m i : Nat) (R : List Nat) : Prop := R.length = m ∧ Below' W64 R ∧ Null R (i + b.length) ∧ num W64 R = num W64 (a.take i) * num W64 b
/-- .. and in the row i, behind j places. -/
def MulAt (a b : List Nat) (m i j : Nat) (R : List Nat) (q : Nat) : Prop := R.length = m ∧ Below' W64 R ∧ Null R (i + b.length) ∧ q < W64 ∧ num W64 R + q * W64 ^ (i + j) = num W64 (a.take i) * num W64 b + dg a i * num W64 (b.take j) * W64 ^ i
theorem MulRow.start (a b : List Nat) (m : Nat) : MulRow a b m 0 (noughts m) := ⟨noughts_length m, noughts_lt m, fun i _ => dg_noughts m i, by rw [num_noughts, List.take_zero, num_nil, Nat.zero_mul]⟩
theorem MulRow.enter {a b R : List Nat} {m i : Nat} (h : MulRow a b m i R) : MulAt a b m i 0 R 0 :=
  ⟨h.1, h.2.1, h.2.2.1, W64_pos, by rw [h.2.2.2, List.take_zero, num_nil]; simp⟩
theorem MulAt.next {a b R : List Nat} {m i j q p' q' : Nat} (h : MulAt a b m i j R q) (hj : j < b.length) (hm : i + j < m) (hp : p' < W64) (hq : q' < W64) (he : p' + q' * W64 = dg R (i + j) + dg a i * dg b j + q) : MulAt a b m i (j + 1) (R.set (i + j) p') q' := by
  obtain ⟨h1, h2, h3, h4, h5⟩ := h
  refine ⟨by simp [h1], below_set h2 hp _, fun t ht => by rw [dg_set _ (by omega)]; exact h3 t ht, hq, ?_⟩
  have h6 := num_set W64 p' (show i + j < R.length by omega)
  rw [num_take, Nat.mul_add, Nat.add_mul, ← Nat.add_assoc (i) j 1, Nat.pow_succ]
  have e := congrArg (· * W64 ^ (i + j)) he
  simp only [Nat.add_mul] at e
  have e2 : dg a i * (dg b j * W64 ^ j) * W64 ^ i = dg a i * dg b j * W64 ^ (i + j) := by
    rw [Nat.pow_add]; simp only [Nat.mul_assoc, Nat.mul_comm, Nat.mul_left_comm]
  have e3 : q' * (W64 ^ (i + j) * W64) = q' * W64 * W64 ^ (i + j) := by simp only [Nat.mul_assoc, Nat.mul_comm]
  rw [e2, e3]
  omega
theorem MulAt.done {a b R : List Nat} {m i q : Nat} (h : MulAt a b m i b.length R q) (hm : i + b.length < m) : MulRow a b m (i + 1) (R.set (i + b.length) q) := by
  obtain ⟨h1, h2, h3, h4, h5⟩ := h
  refine ⟨by simp [h1], below_set h2 h4 _, fun t ht => by rw [dg_set _ (by omega)]; exact h3 t (by omega), ?_⟩
  have h6 := num_set W64 q (show i + b.length < R.length by omega)
  rw [h3 _ (Nat.le_refl _), Nat.zero_mul, Nat.add_zero] at h6
  rw [h6, h5, num_all W64 (Nat.le_refl _), num_take, Nat.add_mul]
  simp only [Nat.mul_assoc, Nat.mul_comm]
/-- What 'times' gives. -/
def TimesSays (a b : List Nat) (m : Nat) (w : World) (e : Ending) (w' : World) : Prop :=
  ∃ g R, e = .returned (.slice (some ⟨g, 0, none⟩) m m) ∧ Blk w' g 22 (uvs R).toArray ∧ R.length = m ∧ Below' W64 R ∧ num W64 R = num W64 a * num W64 b ∧ Below w.heap.size w w'
set_option maxHeartbeats 2000000 in
theorem times_any {B B2 : Nat} {A A2 : Option Addr} {n n2 c c2 : Nat} {a b : List Nat} {w : World} (h : Wd w B A n a) (h2 : Wd w B2 A2 n2 b) (hB : B ≤ w.heap.size) (hB2 : B2 ≤ w.heap.size) (hn : n ≤ 512) (hn2 : n2 ≤ 512) :
    Calls Tryd.prog 36 #[.agg #[.slice A n c], .agg #[.slice A2 n2 c2]] w (TimesSays a b (n + n2) w) := by
  have Hla := Lib.hid h.len
  have Hlb := Lib.hid h2.len
  have Hta := Lib.hid h.lts
  have Htb := Lib.hid h2.lts
  have gA := ((Blk.new w 27 #[.slice A n c]).alloc (.cells #[.slice A2 n2 c2] 27)).alloc (.cells (uvs (noughts (n + n2))).toArray 22)
  have gB := (Blk.new (w.alloc (.cells #[.slice A n c] 27)) 27 #[.slice A2 n2 c2]).alloc (.cells (uvs (noughts (n + n2))).toArray 22)
  have gL := Blk.new ((w.alloc (.cells #[.slice A n c] 27)).alloc (.cells #[.slice A2 n2 c2] 27)) 22 (uvs (noughts (n + n2))).toArray
  have hmk := make_words (n + n2) (by omega) ((w.alloc (.cells #[.slice A n c] 27)).alloc (.cells #[.slice A2 n2 c2] 27))
  have e1 : ((n + n2 : Nat) : Int) = (n : Int) + (n2 : Int) := by omega
  rw [e1] at hmk
  clear e1
  have hbel := bstep (bstep (balloc w (.cells #[.slice A n c] 27)) (balloc _ (.cells #[.slice A2 n2 c2] 27))) (balloc _ (.cells (uvs (noughts (n + n2))).toArray 22))
  simp only [World.size_alloc] at hmk gB gL
  have HA := Lib.hid gA
  have HBB := Lib.hid gB
  have HL := Lib.hid gL
  clear gA gB gL
  go_enter Tryd.func36, Tryd.ntmps36
  go_wp2_with fail
  clear hmk
  generalize ((w.alloc (.cells #[.slice A n c] 27)).alloc (.cells #[.slice A2 n2 c2] 27)).alloc (.cells (uvs (noughts (n + n2))).toArray 22) = W0 at *
  have Hst := Lib.hid (MulRow.start a b (n + n2))
  go_loopw [25] (fun k wr => ∃ i R, i ≤ n ∧ k = .int .i64 ((i : Nat) : Int) ∧ Hid (MulRow a b (n + n2) i R) ∧ Hid (Blk wr w.heap.size 27 #[.slice A n c]) ∧ Hid (Blk wr (w.heap.size + 1) 27 #[.slice A2 n2 c2]) ∧ Hid (Blk wr (w.heap.size + 1 + 1) 22 (uvs R).toArray) ∧ Below w.heap.size w wr) (fun k _ => n - (intOf k).toNat)
  case atStart => exact ⟨0, _, by omega, rfl, Hst, HA, HBB, HL, hbel⟩
  case round =>
    clear HA HBB HL hbel Hst
    obtain ⟨i, R, hi, rfl, HS, HA, HBB, HL, hb⟩ := hrel
    by_cases hlt : i < n
    · obtain ⟨b1, o1, rfl, hb1, hc1⟩ := (h.below (hb.mono hB)).at_ hlt
      have zB := (blk_cell HBB.out).1
      have hsz := HL.out.lt
      have hx := Lib.hid (dg_lt W64_pos Hta.out i)
      have HS2 := Lib.hid HS.out.enter
      clear HS
      go_wp2_with fail
      clear zB hc1
      go_loopw [8, 33] (fun r k wq => ∃ j q R, j ≤ n2 ∧ k = .int .i64 ((j : Nat) : Int) ∧ r = .int .u64 (uv q) ∧ Hid (MulAt a b (n + n2) i j R q) ∧ Hid (Blk wq w.heap.size 27 #[.slice (some ⟨b1, o1, none⟩) n c]) ∧ Hid (Blk wq (w.heap.size + 1) 27 #[.slice A2 n2 c2]) ∧ Hid (Blk wq (w.heap.size + 1 + 1) 22 (uvs R).toArray) ∧ Below w.heap.size w wq) (fun _ k _ => n2 - (intOf k).toNat)
      case atStart => exact ⟨0, 0, R, by omega, rfl, rfl, HS2, HA, HBB, HL, hb⟩
      case round =>
        clear HA HBB HL hb HS2 hsz
        obtain ⟨j, q, R, hj, rfl, rfl, HS, HA, HBB, HL, hb⟩ := hrel
        have hsz := HL.out.lt
        by_cases hlt2 : j < n2
        · obtain ⟨b2, o2, rfl, hb2, hc2⟩ := (h2.below (hb.mono hB2)).at_ hlt2
          have hR := HS.out.1
          have hij : i + j < n + n2 := by omega
          have hfz := HL.out.frozen (i + j)
          have hcl : wr.cell? ⟨w.heap.size + 1 + 1, i + j, none⟩ = some (.int .u64 (uv (dg R (i + j)))) := by
            rw [HL.out.cell (i + j)]
            simpa using uvs_get R (i + j) (dg R (i + j)) (dg_some (by omega))
          have hy := dg_lt W64_pos Htb.out j
          obtain ⟨q1, q2, q3, q4⟩ := place_law (dg_lt W64_pos HS.out.2.1 (i + j)) hx.out hy HS.out.2.2.2.1
          have hnx := Lib.hid (HS.out.next (by rw [Hlb.out]; exact hlt2) hij q2 q3 q4)
          have hM := Lib.hid (mul64_any (dg a i) (dg b j) hx.out hy)
          have r1 := run_add0 (dg a i * dg b j % W64) q
          have r2 := run_add0 (dg R (i + j)) ((dg a i * dg b j % W64 + q) % W64)
          have a1 := uv_add q1
          have a2 := uv_add q3
          clear hR q1 q2 q3 q4 hy
          generalize (dg R (i + j) + (dg a i * dg b j % W64 + q) % W64) % W64 = p' at *
          generalize (dg R (i + j) + (dg a i * dg b j % W64 + q) % W64) / W64 = o2' at *
          generalize dg R (i + j) = p at *
          generalize (dg a i * dg b j % W64 + q) % W64 = lo1 at *
          generalize (dg a i * dg b j % W64 + q) / W64 = o1' at *
          generalize dg a i * dg b j % W64 = lo at *
          generalize dg a i * dg b j / W64 = hi' at *
          generalize hi' + o1' = hi1 at *
          generalize hi1 + o2' = q' at *
          have hii : (i : Int) + (j : Int) < (n : Int) + (n2 : Int) := by omega
          go_wp2_with fail
          refine (hM.out _).mono ?_
          rintro e w' ⟨rfl, rfl⟩
          go_wp2_with fail
          have gL := HL.out.set (i + j) (.int .u64 (uv p'))
          rw [uvs_set] at gL
          have GL := Lib.hid gL
          have GA := Lib.hid (HA.out.far (p := ⟨w.heap.size + 1 + 1, i + j, none⟩) (by simp; omega) (.int .u64 (uv p')))
          have GB := Lib.hid (HBB.out.far (p := ⟨w.heap.size + 1 + 1, i + j, none⟩) (by simp) (.int .u64 (uv p')))
          have kW := hb.setCell (p := ⟨w.heap.size + 1 + 1, i + j, none⟩) (by simp; omega) (.int .u64 (uv p'))
          clear gL
          go_roundw
          case rel => exact ⟨j + 1, q', _, by omega, by go_num, rfl, hnx, GA, GB, GL, kW⟩
          case measure => simp [intOf]; omega
        · obtain rfl : n2 = j := by omega
          have hR := HS.out.1
          have hfz := HL.out.frozen (i + n2)
          have hcl : wr.cell? ⟨w.heap.size + 1 + 1, i + n2, none⟩ = some (.int .u64 (uv (dg R (i + n2)))) := by
            rw [HL.out.cell (i + n2)]
            simpa using uvs_get R (i + n2) (dg R (i + n2)) (dg_some (by omega))
          have hS := HS.out
          have hS2 : MulAt a b (n + n2) i b.length R q := by rw [Hlb.out]; exact hS
          have hdone := hS2.done (by rw [Hlb.out]; omega)
          rw [Hlb.out] at hdone
          have hnx := Lib.hid hdone
          have zB := (blk_cell HBB.out).1
          have hii : (i : Int) + (n2 : Int) < (n : Int) + (n2 : Int) := by omega
          have hszB := HBB.out.lt
          clear hS hS2 hdone hR
          go_wp2_with fail
          have gL := HL.out.set (i + n2) (.int .u64 (uv q))
          rw [uvs_set] at gL
          have GL := Lib.hid gL
          have GA := Lib.hid (HA.out.far (p := ⟨w.heap.size + 1 + 1, i + n2, none⟩) (by simp; omega) (.int .u64 (uv q)))
          have GB := Lib.hid (HBB.out.far (p := ⟨w.heap.size + 1 + 1, i + n2, none⟩) (by simp) (.int .u64 (uv q)))
          have kW := hb.setCell (p := ⟨w.heap.size + 1 + 1, i + n2, none⟩) (by simp; omega) (.int .u64 (uv q))
          clear gL
          go_roundw
          case rel => exact ⟨i + 1, _, by omega, by go_num, hnx, GA, GB, GL, kW⟩
          case measure => simp [intOf]; omega
    · obtain rfl : n = i := by omega
      go_wp2_with fail
      go_ret
      exact ⟨w.heap.size + 1 + 1, R, rfl, HL.out, HS.out.1, HS.out.2.1, by rw [HS.out.2.2.2, num_all W64 (by rw [Hla.out]; omega)], hb⟩
end Go.Proofs.YthfbgcjfnpajjaaDoor
