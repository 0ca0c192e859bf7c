import Derived.Test.YthfbgcjfnpajjaaDoorNatG
/- nat.Pow. -/
namespace Go.Proofs.YthfbgcjfnpajjaaDoor
open Go.RowKit
set_option linter.unusedVariables false
set_option maxRecDepth 100000

/-- What Pow gives, of m rounds. -/
def PowSays (N m : Nat) (n : Int) (w : World) (e : Ending) (w' : World) : Prop :=
  match opAll (fun s N => s * N) 1 (List.replicate m N) with
  | none => GivesErr 16 w e w'
  | some P => if n < 0 ∨ 65536 < n then GivesErr 2 w e w' else GivesPair P w e w'
theorem PowSays.long {N m : Nat} {n : Int} {w w' : World} {e : Ending} (h : opAll (fun s N => s * N) 1 (List.replicate m N) = none) (hg : GivesErr 16 w e w') : PowSays N m n w e w' := by
  unfold PowSays; rw [h]; exact hg
theorem PowSays.range {N m P : Nat} {n : Int} {w w' : World} {e : Ending} (h : opAll (fun s N => s * N) 1 (List.replicate m N) = some P) (hn : n < 0 ∨ 65536 < n) (hg : GivesErr 2 w e w') : PowSays N m n w e w' := by
  unfold PowSays; rw [h]; simp only [if_pos hn]; exact hg
theorem PowSays.ok {N m P : Nat} {n : Int} {w w' : World} {e : Ending} (h : opAll (fun s N => s * N) 1 (List.replicate m N) = some P) (hn : ¬ (n < 0 ∨ 65536 < n)) (hg : GivesPair P w e w') : PowSays N m n w e w' := by
  unfold PowSays; rw [h]; simp only [if_neg hn]; exact hg
theorem dg_rep {m N i : Nat} (h : i < m) : dg (List.replicate m N) i = N := dg_get (by simp [h])
set_option maxHeartbeats 2000000 in
theorem pow_core {N m : Nat} {v : Value} {w : World} (n q : Int) (h : NatIs w w.heap.size v N) (hm : m = q.toNat) (hq : q ≤ 65536) (hmin : min n 65536 = q) :
    Calls Tryd.prog 26 #[v, .int .i64 n] w (PowSays N m n w) := by
  obtain ⟨A, na, ca, ws, rfl, hv0⟩ := h
  have hN : NatIs w w.heap.size (.agg #[.slice A na ca]) N := ⟨A, na, ca, ws, rfl, hv0⟩
  clear hv0
  have b0 := bstep (balloc w (.cells #[.slice A na ca] 27)) (balloc _ (.cells #[.slice none 0 0] 27))
  have gA0 := (Blk.new w 27 #[.slice A na ca]).alloc (.cells #[.slice none 0 0] 27)
  have gR0 := Blk.new (w.alloc (.cells #[.slice A na ca] 27)) 27 #[.slice none 0 0]
  simp only [World.size_alloc] at gR0
  have C0 := of_any 1 (by decide) ((w.alloc (.cells #[.slice A na ca] 27)).alloc (.cells #[.slice none 0 0] 27))
  rw [show uv 1 = 1 from rfl] at C0
  have hS0 : Hid (opAll (fun s N => s * N) 1 ((List.replicate m N).take 0) = some 1) := Lib.hid rfl
  have Hm := Lib.hid hm
  clear hm
  go_enter Tryd.func26, Tryd.ntmps26
  go_wp2_with fail
  refine C0.mono ?_
  rintro e w1 ⟨v, rfl, hv, b1⟩
  have k1 := bstep b0 b1
  obtain ⟨A1, n1, c1, ws1, rfl, hv1⟩ := hv
  have hv : NatIs w1 w1.heap.size (.agg #[.slice A1 n1 c1]) 1 := ⟨A1, n1, c1, ws1, rfl, hv1⟩
  have gA1 := blk_size gA0 b1
  have gR1 := blk_size gR0 b1
  have hR1 := gR1.lt
  have HV := Lib.hid (hv.step (balloc w1 (.cells #[.slice A1 n1 c1] 27)))
  have HG := Lib.hid (Blk.new w1 27 #[.slice A1 n1 c1])
  have HA := Lib.hid (gA1.alloc (.cells #[.slice A1 n1 c1] 27))
  have HR := Lib.hid (gR1.alloc (.cells #[.slice A1 n1 c1] 27))
  have k2 := bstep k1 (balloc w1 (.cells #[.slice A1 n1 c1] 27))
  clear C0 hv hv1 gR0 gR1 gA0 gA1 b0 b1 k1
  have Hmin := Lib.hid hmin
  go_wp2_with fail
  clear hmin
  generalize w1.alloc (.cells #[.slice A1 n1 c1] 27) = W0 at *
  generalize w1.heap.size = g at *
  go_loopw [12] (fun k wr => ∃ i s As ns cs, i ≤ m ∧ k = .int .i64 ((i : Nat) : Int) ∧ Hid (opAll (fun s N => s * N) 1 ((List.replicate m N).take i) = some s) ∧ Hid (NatIs wr wr.heap.size (.agg #[.slice As ns cs]) s) ∧ Hid (Blk wr w.heap.size 27 #[.slice A na ca]) ∧ Hid (Blk wr (w.heap.size + 1) 27 #[.slice none 0 0]) ∧ Hid (Blk wr g 27 #[.slice As ns cs]) ∧ Below w.heap.size w wr) (fun k _ => m - (intOf k).toNat)
  case atStart => exact ⟨0, 1, A1, n1, c1, by omega, rfl, hS0, HV, HA, HR, HG, k2⟩
  case round =>
    clear HV HA HR HG k2 hS0
    obtain ⟨i, s, As, ns, cs, hi, rfl, HS, HV, HA, HR, HG, kb⟩ := hrel
    have hgl := HG.out.lt
    have hRl := HR.out.lt
    have hAl := HA.out.lt
    by_cases hlt : i < m
    · have hiq : (i : Int) < q := by have := Hm.out; omega
      have HT := Lib.hid (opAll_take HS.out (by rw [List.length_replicate]; exact hlt))
      have hT2 := HT.out
      rw [dg_rep hlt] at hT2
      have HT2 := Lib.hid hT2
      have C1 := product_of HV.out (hN.below kb) (Nat.le_refl _) kb.size
      have z1 := (blk_cell HG.out).1
      have z2 := (blk_cell HA.out).1
      clear HT hT2
      go_wp2_with fail
      refine C1.mono ?_
      rintro e w2 ⟨⟨g2, m2, R2, rfl, hW, hm2, hnum⟩, b2⟩
      have HNum := Lib.hid hnum
      have gG2 := blk_size HG.out b2
      have gR2 := blk_size HR.out b2
      have gA2 := blk_size HA.out b2
      have kB := bstep kb b2
      clear C1 z1 z2 hnum
      by_cases hok : s * N < BD
      · have C2 := bounded_ok (c := m2) hW (Nat.le_refl _) (Nat.le_refl _) (by omega) (by rw [HNum.out]; exact hok)
        rw [HNum.out] at C2
        have HT3 := HT2.out
        rw [if_pos hok] at HT3
        have HTk := Lib.hid HT3
        clear HT3 hok
        go_wp2_with fail
        refine C2.mono ?_
        rintro e w3 ⟨v3, rfl, hv3, b3⟩
        obtain ⟨A3, n3, c3, ws3, rfl, hv4⟩ := hv3
        have hv3 : NatIs w3 w3.heap.size (.agg #[.slice A3 n3 c3]) (s * N) := ⟨A3, n3, c3, ws3, rfl, hv4⟩
        have gG3 := blk_size gG2 b3
        have gR3 := blk_size gR2 b3
        have gA3 := blk_size gA2 b3
        have hG3 := gG3.lt
        have hR3 := gR3.lt
        have kC := bstep kB b3
        obtain ⟨z1, z2⟩ := blk_cell gG3
        clear C2 hv4
        go_wp2_with fail
        have hV4 := hv3.set (y := .slice A3 n3 c3) gG3
        rw [← size_setCell' w3 ⟨g, 0, none⟩ (.slice A3 n3 c3)] at hV4
        have HV4 := Lib.hid (hV4.step (balloc _ (.cells #[.slice A3 n3 c3] 27)))
        have HG4 := Lib.hid ((blk_one (y := .slice A3 n3 c3) gG3).alloc (.cells #[.slice A3 n3 c3] 27))
        have HR4 := Lib.hid ((gR3.far (p := ⟨g, 0, none⟩) (by simp; omega) (.slice A3 n3 c3)).alloc (.cells #[.slice A3 n3 c3] 27))
        have HA4 := Lib.hid ((gA3.far (p := ⟨g, 0, none⟩) (by simp; omega) (.slice A3 n3 c3)).alloc (.cells #[.slice A3 n3 c3] 27))
        have k4 := bstep (kC.setCell (p := ⟨g, 0, none⟩) (by simp; omega) (.slice A3 n3 c3)) (balloc _ (.cells #[.slice A3 n3 c3] 27))
        clear gG3 gR3 gA3 hv3 gG2 gR2 gA2 kC kB hV4
        go_roundw
        case rel => exact ⟨i + 1, s * N, A3, n3, c3, by omega, by go_num, HTk, HV4, HA4, HR4, HG4, k4⟩
        case measure => simp [intOf]; omega
      · have C2 := bounded_long (c := m2) hW (Nat.le_refl _) (Nat.le_refl _) (by omega) (by rw [HNum.out]; exact Nat.le_of_not_lt hok)
        have HT3 := HT2.out
        rw [if_neg hok] at HT3
        have HTk := Lib.hid (opAll_stop HT3)
        clear HT3 hok
        go_wp2_with fail
        refine C2.mono ?_
        rintro e w3 ⟨rfl, b3⟩
        have gR3 := blk_size gR2 b3
        have hR3 := gR3.lt
        have kC := bstep kB b3
        obtain ⟨z1, z2⟩ := blk_cell gR3
        clear C2
        go_wp2_with fail
        have gR4 := (blk_one (y := .slice none 0 0) gR3).alloc (.cells #[.slice none 0 0] 27)
        obtain ⟨y0, y1⟩ := blk_cell gR4
        refine bodyPost_ret (v := .tuple #[.agg #[.slice none 0 0], .int .i64 16]) (by simp [results, Tryd.results26, go_sem, y0]) rfl ?_
        exact PowSays.long HTk.out ⟨rfl, bstep (kC.setCell (p := ⟨w.heap.size + 1, 0, none⟩) (by simp) (.slice none 0 0)) (balloc _ _)⟩
    · obtain rfl : m = i := by omega
      have hiq : ¬ (m : Int) < q := by have := Hm.out; omega
      have hS := HS.out
      rw [List.take_of_length_le (by rw [List.length_replicate]; omega)] at hS
      have HS2 := Lib.hid hS
      obtain ⟨z1, z2⟩ := blk_cell HG.out
      obtain ⟨z3, z4⟩ := blk_cell HR.out
      clear hS
      by_cases hr : n < 0 ∨ 65536 < n
      · have hr2 : ¬ n < 0 → 65536 < n := fun h => hr.resolve_left h
        by_cases hneg : n < 0
        all_goals
          try have hbig := hr2 hneg
          clear hr2
          have Hr := Lib.hid hr
          clear hr
          go_wp2_with fail
          have gR4 := blk_one (y := .slice none 0 0) HR.out
          obtain ⟨y0, y1⟩ := blk_cell gR4
          refine bodyPost_ret (v := .tuple #[.agg #[.slice none 0 0], .int .i64 2]) (by simp [results, Tryd.results26, go_sem, y0]) rfl ?_
          exact PowSays.range HS2.out Hr.out ⟨rfl, kb.setCell (p := ⟨w.heap.size + 1, 0, none⟩) (by simp) (.slice none 0 0)⟩
      · have hn1 : ¬ n < 0 := fun h => hr (.inl h)
        have hn2 : ¬ 65536 < n := fun h => hr (.inr h)
        have Hr := Lib.hid hr
        clear hr
        go_wp2_with fail
        have gR4 := blk_one (y := .slice As ns cs) HR.out
        obtain ⟨y0, y1⟩ := blk_cell gR4
        refine bodyPost_ret (v := .tuple #[.agg #[.slice As ns cs], .int .i64 0]) (by simp [results, Tryd.results26, go_sem, y0]) rfl ?_
        exact PowSays.ok HS2.out Hr.out ⟨_, rfl, (HV.out.set HR.out).more (by rw [size_setCell']; exact Nat.le_refl _), kb.setCell (by simp) _⟩
theorem pow_any {N : Nat} {v : Value} {w : World} (n : Int) (h : NatIs w w.heap.size v N) :
    Calls Tryd.prog 26 #[v, .int .i64 n] w (PowSays N (min n 65536).toNat n w) := pow_core n (min n 65536) h rfl (by omega) rfl
end Go.Proofs.YthfbgcjfnpajjaaDoor
