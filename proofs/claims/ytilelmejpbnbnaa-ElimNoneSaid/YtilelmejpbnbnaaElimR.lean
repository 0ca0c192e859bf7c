import Derived.Test.YtilelmejpbnbnaaElimC
/- Rows that have their room. -/
namespace Go.Proofs.Ytilelmejpbnbnaa
open Go.RowKit
set_option linter.unusedVariables false
set_option maxRecDepth 100000

/-- A row is answered, and its vector's room is no less than it is long. -/
def RoomEnds (r : RowL) (w : World) (e : Ending) (w' : World) : Prop :=
  ∃ A1 n1 c1 A2 n2 c2, e = .returned (.agg #[.slice A1 n1 c1, .slice A2 n2 c2]) ∧ n1 ≤ c1 ∧ RowIs w' r (.agg #[.slice A1 n1 c1, .slice A2 n2 c2]) ∧ Below w.heap.size w w'
theorem kscale_room {B : Nat} {A : Option Addr} {n c : Nat} (x : UInt8) {us : List UInt8} {w : World} (h : Rd w B A n us) (hB : B ≤ w.heap.size) (hn : n ≤ 140737488355328) :
    Calls Try.prog 87 #[.int .u8 (bv x), .slice A n c] w fun e w' => ∃ A' c', n ≤ c' ∧ e = .returned (.slice A' n c') ∧ Rd w' w'.heap.size A' n (scaleL x us) ∧ Below w.heap.size w w' :=
  (kscale_any x h hB hn).mono fun e w' ⟨g, he, _, hg, hw⟩ => by
    have hl : (scaleL x us).length = n := by rw [scaleL, List.length_map]; exact h.1
    have hr := (Rd.of_blk hg).more (B' := w'.heap.size) hg.lt
    rw [hl] at hr
    exact ⟨_, _, Nat.le_refl _, he, hr, hw⟩
theorem norm_room {A A2 : Option Addr} {n c n2 c2 : Nat} {r : RowL} {w : World} (hr0 : RowIs w r (.agg #[.slice A n c, .slice A2 n2 c2])) (hlead : ¬ leadI r.1 < 0) :
    Calls Try.prog 65 #[.agg #[.slice A n c, .slice A2 n2 c2]] w (RoomEnds (normR r) w) := by
  obtain ⟨h1, h2, l1, l2⟩ := hr0.parts
  clear hr0
  obtain ⟨hb0, hx, hg⟩ := two_alloc (w := w) (T := 58) (T2 := 58) (cs := #[.slice A n c, .slice A2 n2 c2]) (cs2 := #[.slice none 0 0, .slice none 0 0])
  have q1 := h1.step hb0
  have q2 := h2.step hb0
  have lb := lead_bounds r.1
  have hl := h1.1
  have hz : w.heap.size + 1 < ((w.alloc (.cells #[.slice A n c, .slice A2 n2 c2] 58)).alloc (.cells #[.slice none 0 0, .slice none 0 0] 58)).heap.size := by simp
  obtain ⟨hc0, hc1, hf0, hf1⟩ := cells2 hx
  have CA := fun w1 B q => at_any (w := w1) (c := c) (q : Rd w1 B A n r.1) (by omega) (leadI r.1) (by omega) (by omega)
  have CL := fun w1 B q => lead_any (w := w1) (c := c) (q : Rd w1 B A n r.1) (by omega)
  have e2 : normR r = (scaleL (ginv (atB r.1 (leadI r.1))) r.1, scaleL (ginv (atB r.1 (leadI r.1))) r.2) := by simp [normR, hlead]
  have hat := at_lead hlead
  rw [e2]
  generalize atB r.1 (leadI r.1) = x at *
  generalize leadI r.1 = k at *
  clear e2 hlead lb hl h1 h2
  go_enter Try.func65, Try.ntmps65
  go_wp2_with fail
  go_region_held3 (fun w' => w'.cell? ⟨w.heap.size, 0, none⟩ = some (.slice A n c)) (go_keep) (first | (go_at_call 78; refine (CL _ _ q1.drew).mono ?_; rintro e w' ⟨rfl, rfl⟩) | (go_at_call 82; refine (CA _ _ q1.drew).mono ?_; rintro e w' ⟨rfl, rfl⟩) | (go_at_call 86; refine (inv_some _ hat _).mono ?_; rintro e w' ⟨rfl, rfl⟩))
  go_wp2_with fail
  clear CA CL
  have q1' := q1.dd.dd
  have q2' := q2.dd.dd
  have hb0' := hb0.drew.drew
  have hg' := hg.drew.drew
  have hx' := hx.drew.drew
  have hz0 := Nat.lt_of_succ_lt hz
  clear q1 q2 hg hx hb0 hc0 hc1 hf0 hf1
  obtain ⟨hc0, hc1, hf0, hf1⟩ := cells2 hx'
  obtain ⟨hd0, hd1, he0, he1⟩ := cells2 hg'
  go_region_held3 (fun w' => w'.cell? ⟨w.heap.size, 0, none⟩ = some (.slice A n c) ∧ w'.cell? ⟨w.heap.size, 1, none⟩ = some (.slice A2 n2 c2)) (first | exact ⟨hc0, hc1⟩ | exact ⟨kc0, kc1⟩ | exact ⟨mc0, mc1⟩ | go_keep) (first | (go_at_call 87; (with_reducible refine (kscale_room (ginv x) q1' (Nat.le_refl _) (by omega)).mono ?_); rintro e w1 ⟨A3, c3, hr3, rfl, r1, b1⟩; have kx := hx'.below b1 hz0; have kg := hg'.below b1 hz; have kb := bstep hb0' b1; have kq2 := q2'.step b1; obtain ⟨kc0, kc1, kf0, kf1⟩ := cells2 kx; obtain ⟨kd0, kd1, ke0, ke1⟩ := cells2 kg) | (go_at_call 87; refine (kscale_room (ginv x) kq2 (Nat.le_refl _) (by omega)).mono ?_; rintro e w2 ⟨A4, c4, hr4, rfl, r2, b2⟩; have mx := kx.below b2 (Nat.lt_of_lt_of_le hz0 b1.size); have mg := kg.below b2 (Nat.lt_of_lt_of_le hz b1.size); have mb := bstep kb b2; have mr1 := r1.step b2; obtain ⟨mc0, mc1, mf0, mf1⟩ := cells2 mx; obtain ⟨md0, md1, me0, me1⟩ := cells2 mg))
  go_wp2_with fail
  refine end_row (v := .agg #[.slice A3 n c3, .slice A4 n2 c4]) mg (by intro W e0 e1; simp [results, Try.results65, go_sem, e0, e1]) rfl fun W hl => ?_
  exact ⟨_, _, _, _, _, _, rfl, hr3, RowIs.mk (hl.row mr1 mg NoBytes.two) (hl.row r2 mg NoBytes.two) l1 l2, hl.below _ _ (by omega) mb⟩
theorem less_room {A A2 A3 A4 : Option Addr} {n c n2 c2 n3 c3 n4 c4 : Nat} {r o : RowL} (x : UInt8) {w : World} (hr0 : RowIs w r (.agg #[.slice A n c, .slice A2 n2 c2])) (hr1 : RowIs w o (.agg #[.slice A3 n3 c3, .slice A4 n4 c4])) (d1 : o.1.length = r.1.length) (d2 : o.2.length = r.2.length) :
    Calls Try.prog 83 #[.agg #[.slice A n c, .slice A2 n2 c2], .int .u8 (bv x), .agg #[.slice A3 n3 c3, .slice A4 n4 c4]] w fun e w' => ∃ A1 n1 c1 A2 n2 c2, e = .returned (.tuple #[.agg #[.slice A1 n1 c1, .slice A2 n2 c2], .int .i64 0]) ∧ n1 ≤ c1 ∧ RowIs w' (lessR r x o).1 (.agg #[.slice A1 n1 c1, .slice A2 n2 c2]) ∧ Below w.heap.size w w' := by
  obtain ⟨h1, h2, l1, l2⟩ := hr0.parts
  obtain ⟨h3, h4, l3, l4⟩ := hr1.parts
  clear hr0 hr1
  obtain ⟨hb0, hx, hy, hg, hz⟩ := three_alloc (w := w) (T := 58) (T2 := 58) (T3 := 58) (cs := #[.slice A n c, .slice A2 n2 c2]) (cs2 := #[.slice A3 n3 c3, .slice A4 n4 c4]) (cs3 := #[.slice none 0 0, .slice none 0 0])
  have q1 := h1.step hb0
  have q2 := h2.step hb0
  have q3 := h3.step hb0
  have q4 := h4.step hb0
  have e1 := h1.1
  have e2 := h2.1
  have e3 := h3.1
  have e4 := h4.1
  obtain rfl : n3 = n := by omega
  obtain rfl : n4 = n2 := by omega
  have C1 := fun W q3 q1 l => axpy_any (w := W) (c := c3) (c2 := c) x (q3 : Rd W W.heap.size A3 n3 o.1) (q1 : Rd W W.heap.size A n3 r.1) (Nat.le_refl _) (Nat.le_refl _) l
  have C2 := fun W q4 q2 l => axpy_any (w := W) (c := c4) (c2 := c2) x (q4 : Rd W W.heap.size A4 n4 o.2) (q2 : Rd W W.heap.size A2 n4 r.2) (Nat.le_refl _) (Nat.le_refl _) l
  have X3 := Lib.hid (show lessR r x o = ((addL x o.1 r.1, addL x o.2 r.2), 0) by simp [lessR, e1, e2, e3, e4])
  have A1 := Lib.hid (show (addL x o.1 r.1).length = n3 by rw [addL_length, e1])
  have A2' := Lib.hid (show (addL x o.2 r.2).length = n4 by rw [addL_length, e2])
  clear h1 h2 h3 h4 d1 d2 e1 e2 e3 e4
  go_enter Try.func83, Try.ntmps83
  go_wp2_with fail
  refine (C1 _ q3 q1 (by omega)).mono ?_
  rintro e w1 ⟨g1, rfl, s1, k1, b1⟩
  have r1 := (Rd.of_blk k1).more (B' := w1.heap.size) k1.lt
  rw [A1.out] at r1
  clear k1
  clear C1
  generalize ((w.alloc (.cells #[.slice A n3 c, .slice A2 n4 c2] 58)).alloc (.cells #[.slice A3 n3 c3, .slice A4 n4 c4] 58)).alloc (.cells #[.slice none 0 0, .slice none 0 0] 58) = W at *
  replace q2 := q2.step b1
  replace q4 := q4.step b1
  replace hb0 := bstep hb0 b1
  replace hx := hx.below b1 (by omega)
  replace hy := hy.below b1 (by omega)
  replace hg := hg.below b1 (by omega)
  have hz1 := b1.size
  clear b1 q1 q3
  obtain ⟨hc0, hc1, hf0, hf1⟩ := cells2 hx
  obtain ⟨hd0, hd1, he0, he1⟩ := cells2 hy
  obtain ⟨hm0, hm1, hn0, hn1⟩ := cells2 hg
  go_wp2_with fail
  refine (C2 _ q4 q2 (by omega)).mono ?_
  rintro e w2 ⟨g2, rfl, s2, k2, b2⟩
  have r2 := (Rd.of_blk k2).more (B' := w2.heap.size) k2.lt
  rw [A2'.out] at r2
  clear k2
  clear C2
  replace r1 := r1.step b2
  replace hb0 := bstep hb0 b2
  replace hg := hg.below b2 (by omega)
  clear hx hy b2 q2 q4 hc0 hc1 hf0 hf1 hd0 hd1 he0 he1 hm0 hm1 hn0 hn1
  obtain ⟨hc0, hc1, hf0, hf1⟩ := cells2 hg
  go_wp2_with fail
  refine end_row (v := .tuple #[.agg #[.slice (some ⟨g1, 0, none⟩) n3 n3, .slice (some ⟨g2, 0, none⟩) n4 n4], .int .i64 0]) hg (by intro W e0 e1; simp [results, Try.results83, go_sem, e0, e1]) rfl fun W hl => ?_
  rw [X3.out]
  exact ⟨_, _, _, _, _, _, rfl, Nat.le_refl _, RowIs.mk (hl.row r1 hg NoBytes.two) (hl.row r2 hg NoBytes.two) (by omega) (by omega), hl.below _ _ (by omega) hb0⟩
theorem efrom_room {w : World} {r o : RowL} {A1 A2 A3 A4 : Option Addr} {n1 c1 n2 c2 n3 c3 n4 c4 : Nat} (hx : RowIs w o (.agg #[.slice A1 n1 c1, .slice A2 n2 c2])) (hy : RowIs w r (.agg #[.slice A3 n3 c3, .slice A4 n4 c4])) (hroom : n3 ≤ c3) (e1 : o.1.length = r.1.length) (e2 : o.2.length = r.2.length) :
    Calls Try.prog 62 #[.agg #[.slice A1 n1 c1, .slice A2 n2 c2, .int .i64 (leadI o.1)], .agg #[.slice A3 n3 c3, .slice A4 n4 c4]] w (RoomEnds (lessAt r o (leadI o.1)) w) := by
  obtain ⟨p1, p2, l1, l2⟩ := hx.parts
  obtain ⟨p3, p4, l3, l4⟩ := hy.parts
  have hlb := lead_bounds o.1
  have hl1 := p1.1
  obtain ⟨hb0, bx, by_, hg, hz⟩ := three_alloc (w := w) (T := 102) (T2 := 58) (T3 := 58) (cs := #[.slice A1 n1 c1, .slice A2 n2 c2, .int .i64 (leadI o.1)]) (cs2 := #[.slice A3 n3 c3, .slice A4 n4 c4]) (cs3 := #[.slice none 0 0, .slice none 0 0])
  have ro : RowIs _ o _ := hx.step hb0
  have rr : RowIs _ r _ := (RowIs.mk (c := c3) (c2 := c4) p3 p4 l3 l4).step hb0
  have HZ := Lib.hid fun (h : atB r.1 (leadI o.1) = 0) => less_none0 e1 e2 h
  have HL : Hid (lessAt r o (leadI o.1) = (lessR r (atB r.1 (leadI o.1)) o).1) := Lib.hid rfl
  have hlo : -9223372036854775808 ≤ leadI o.1 ∧ leadI o.1 ≤ 9223372036854775807 := by omega
  have E1 := Lib.hid e1
  have E2 := Lib.hid e2
  clear p1 p2 p3 p4 hx hy e1 e2 hlb hl1
  generalize leadI o.1 = L at *
  obtain ⟨c0, c1', c2', _, _, _⟩ := cells3 bx
  obtain ⟨d0, d1, _, _⟩ := cells2 by_
  go_enter Try.func62, Try.ntmps62
  go_wp2_with fail
  generalize ((w.alloc (.cells #[.slice A1 n1 c1, .slice A2 n2 c2, .int .i64 L] 102)).alloc (.cells #[.slice A3 n3 c3, .slice A4 n4 c4] 58)).alloc (.cells #[.slice none 0 0, .slice none 0 0] 58) = V at *
  refine (c_at rr L hlo.1 hlo.2).mono ?_
  rintro e w' ⟨rfl, rfl⟩
  by_cases ha : atB r.1 L = 0
  · have hr := HZ.out ha
    rw [ha]
    obtain ⟨f0, f1, f2, f3⟩ := cells2 hg
    have hbv : bv 0 = 0 := rfl
    go_wp2_with fail
    obtain ⟨r11, r12, l11, l12⟩ := rr.parts
    refine end_row (v := .agg #[.slice A3 n3 c3, .slice A4 n4 c4]) hg (by intro W e0 e1; simp [results, Try.results62, go_sem, e0, e1]) rfl fun W hl => ?_
    rw [hr]
    exact ⟨_, _, _, _, _, _, rfl, hroom, RowIs.mk (hl.row r11 hg NoBytes.two) (hl.row r12 hg NoBytes.two) l11 l12, hl.below _ _ (by omega) hb0⟩
  · generalize atB r.1 L = a at *
    have hbv : (bv a == 0) = false := by
      rw [beq_eq_false_iff_ne]
      intro e
      exact ha (UInt8.toNat_inj.1 (by unfold bv at e; simpa using e))
    go_wp2_with fail
    refine (less_room a rr ro E1.out E2.out).mono ?_
    rintro e w7 ⟨A7, n7, c7, A8, n8, c8, rfl, hr7, r7, b7⟩
    replace hg := hg.below b7 hg.lt
    replace hb0 := bstep hb0 b7
    clear c0 c1' c2' d0 d1 bx by_ b7
    have b8 := Blk.new w7 58 #[.slice A7 n7 c7, .slice A8 n8 c8]
    have k := balloc w7 (.cells #[.slice A7 n7 c7, .slice A8 n8 c8] 58)
    replace r7 := r7.step k
    replace hg := hg.below k hg.lt
    replace hb0 := bstep hb0 k
    clear k
    obtain ⟨f0, f1, f2, f3⟩ := cells2 hg
    obtain ⟨g0, g1, _, _⟩ := cells2 b8
    go_wp2_with fail
    obtain ⟨r11, r12, l11, l12⟩ := r7.parts
    refine end_row (v := .agg #[.slice A7 n7 c7, .slice A8 n8 c8]) hg (by intro W e0 e1; simp [results, Try.results62, go_sem, e0, e1]) rfl fun W hl => ?_
    rw [HL.out]
    exact ⟨_, _, _, _, _, _, rfl, hr7, RowIs.mk (hl.row r11 hg NoBytes.two) (hl.row r12 hg NoBytes.two) l11 l12, hl.below _ _ (by omega) hb0⟩
end Go.Proofs.Ytilelmejpbnbnaa
