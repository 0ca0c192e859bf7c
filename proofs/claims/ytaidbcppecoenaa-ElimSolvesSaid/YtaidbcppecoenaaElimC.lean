import Derived.Test.YtaidbcppecoenaaInsS
import Derived.Deep.RegionWith
/- Package elim: a row less as much of a step's; systems. -/
namespace Go.Proofs.Ytaidbcppecoenaa
open Go.RowKit
set_option linter.unusedVariables false
set_option maxRecDepth 100000

theorem insert_any {w : World} {v : Value} {n i vb : Nat} {xs : List Value} {x y z : Value} (h : SRow w v n xs) (hi : i ≤ n) (hv : Blk w vb 102 #[x, y, z]) (hne : some vb ≠ v.ownBlock) (h2 : ∀ u ∈ [x, y, z], u.oneCell' = true) (hn : n ≤ 60000) :
    Calls Try.prog 85 #[v, .int .i64 i, .slice (some ⟨vb, 0, none⟩) 1 1] w (InsEnds v n i xs [x, y, z] w) := by
  obtain ⟨hx, h1, ⟨rfl, rfl⟩ | ⟨R, cap, rfl, hc, hcc, hR⟩⟩ := h
  · have : i = 0 := by omega
    subst this
    exact ins_full rfl (.inl ⟨rfl, rfl⟩) hx h1 hv h2 hn
  · by_cases hin : i = n
    · subst hin
      by_cases hcap : cap = i
      · subst hcap
        have hR' : Blk w R 102 xs.toArray := by
          have : xs ++ zer (cap - cap) = xs := by rw [Nat.sub_self]; exact List.append_nil _
          rw [← this]; exact hR
        exact ins_full rfl (.inr ⟨R, rfl, hR'⟩) hx h1 hv h2 hn
      · exact ins_room (by omega) hcc hx h1 hR hv h2 hn
    · by_cases hcap : cap = n
      · subst hcap
        have hR' : Blk w R 102 xs.toArray := by
          have : xs ++ zer (cap - cap) = xs := by rw [Nat.sub_self]; exact List.append_nil _
          rw [← this]; exact hR
        exact ins_grow (by omega) hx h1 hR' hv h2 hn
      · exact ins_shift (by omega) (by omega) hcc hx h1 hR hv (fun e => hne (by rw [e]; rfl)) h2 hn
theorem less_none0 {r o : RowL} {i : Int} (h1 : o.1.length = r.1.length) (h2 : o.2.length = r.2.length) (h : atB r.1 i = 0) : lessAt r o i = r := by
  unfold lessAt lessR
  rw [h, if_pos ⟨h1, h2⟩, addL_none, addL_none]
theorem efrom_any {w : World} {r o : RowL} {y : Value} {A1 A2 : Option Addr} {n1 c1 n2 c2 : Nat} (hx : RowIs w o (.agg #[.slice A1 n1 c1, .slice A2 n2 c2])) (hy : RowIs w r y) (e1 : o.1.length = r.1.length) (e2 : o.2.length = r.2.length) :
    Calls Try.prog 62 #[.agg #[.slice A1 n1 c1, .slice A2 n2 c2, .int .i64 (leadI o.1)], y] w (RowEnds (lessAt r o (leadI o.1)) w) := by
  obtain ⟨p1, p2, l1, l2⟩ := hx.parts
  obtain ⟨A3, n3, c3, A4, n4, c4, rfl, p3, p4, l3, l4⟩ := hy
  have hlb := lead_bounds o.1
  have hl1 := p1.1
  obtain ⟨hb0, bx, by_, hg, hz⟩ := three_alloc (w := w) (T := 102) (T2 := 58) (T3 := 58) (cs := #[.slice A1 n1 c1, .slice A2 n2 c2, .int .i64 (leadI o.1)]) (cs2 := #[.slice A3 n3 c3, .slice A4 n4 c4]) (cs3 := #[.slice none 0 0, .slice none 0 0])
  have ro : RowIs _ o _ := hx.step hb0
  have rr : RowIs _ r _ := (RowIs.mk (c := c3) (c2 := c4) p3 p4 l3 l4).step hb0
  have HZ := Lib.hid fun (h : atB r.1 (leadI o.1) = 0) => less_none0 e1 e2 h
  have HL : Hid (lessAt r o (leadI o.1) = (lessR r (atB r.1 (leadI o.1)) o).1) := Lib.hid rfl
  have hlo : -9223372036854775808 ≤ leadI o.1 ∧ leadI o.1 ≤ 9223372036854775807 := by omega
  clear p1 p2 p3 p4 hx e1 e2 hlb hl1
  generalize leadI o.1 = L at *
  obtain ⟨c0, c1', c2', _, _, _⟩ := cells3 bx
  obtain ⟨d0, d1, _, _⟩ := cells2 by_
  go_enter Try.func62, Try.ntmps62
  go_wp2_with fail
  generalize ((w.alloc (.cells #[.slice A1 n1 c1, .slice A2 n2 c2, .int .i64 L] 102)).alloc (.cells #[.slice A3 n3 c3, .slice A4 n4 c4] 58)).alloc (.cells #[.slice none 0 0, .slice none 0 0] 58) = V at *
  refine (c_at rr L hlo.1 hlo.2).mono ?_
  rintro e w' ⟨rfl, rfl⟩
  by_cases ha : atB r.1 L = 0
  · have hr := HZ.out ha
    rw [ha]
    obtain ⟨f0, f1, f2, f3⟩ := cells2 hg
    have hbv : bv 0 = 0 := rfl
    go_wp2_with fail
    obtain ⟨r11, r12, l11, l12⟩ := rr.parts
    refine end_row (v := .agg #[.slice A3 n3 c3, .slice A4 n4 c4]) hg (by intro W e0 e1; simp [results, Try.results62, go_sem, e0, e1]) rfl fun W hl => ?_
    rw [hr]
    exact RowEnds.mk (hl.row r11 hg NoBytes.two) (hl.row r12 hg NoBytes.two) l11 l12 (hl.below _ _ (by omega) hb0)
  · generalize atB r.1 L = a at *
    have hbv : (bv a == 0) = false := by
      rw [beq_eq_false_iff_ne]
      intro e
      exact ha (UInt8.toNat_inj.1 (by unfold bv at e; simpa using e))
    go_wp2_with fail
    refine (c_less a rr ro).mono ?_
    rintro e w7 ⟨v7, rfl, ⟨A7, n7, c7, A8, n8, c8, rfl, q7, q8, l7, l8⟩, b7⟩
    have r7 : RowIs w7 (lessR r a o).1 (.agg #[.slice A7 n7 c7, .slice A8 n8 c8]) := ⟨_, _, _, _, _, _, rfl, q7, q8, l7, l8⟩
    replace hg := hg.below b7 hg.lt
    replace hb0 := bstep hb0 b7
    clear c0 c1' c2' d0 d1 bx by_ q7 q8 b7
    have b8 := Blk.new w7 58 #[.slice A7 n7 c7, .slice A8 n8 c8]
    have k := balloc w7 (.cells #[.slice A7 n7 c7, .slice A8 n8 c8] 58)
    replace r7 := r7.step k
    replace hg := hg.below k hg.lt
    replace hb0 := bstep hb0 k
    clear k
    obtain ⟨f0, f1, f2, f3⟩ := cells2 hg
    obtain ⟨g0, g1, _, _⟩ := cells2 b8
    go_wp2_with fail
    obtain ⟨r11, r12, l11, l12⟩ := r7.parts
    refine end_row (v := .agg #[.slice A7 n7 c7, .slice A8 n8 c8]) hg (by intro W e0 e1; simp [results, Try.results62, go_sem, e0, e1]) rfl fun W hl => ?_
    rw [HL.out]
    exact RowEnds.mk (hl.row r11 hg NoBytes.two) (hl.row r12 hg NoBytes.two) l11 l12 (hl.below _ _ (by omega) hb0)
end Go.Proofs.Ytaidbcppecoenaa

/- Rows that have their room. -/
namespace Go.Proofs.Ytaidbcppecoenaa
open Go.RowKit
set_option linter.unusedVariables false
set_option maxRecDepth 100000

/-- A row is answered, and its vector's room is no less than it is long. -/
def RoomEnds (r : RowL) (w : World) (e : Ending) (w' : World) : Prop :=
  ∃ A1 n1 c1 A2 n2 c2, e = .returned (.agg #[.slice A1 n1 c1, .slice A2 n2 c2]) ∧ n1 ≤ c1 ∧ RowIs w' r (.agg #[.slice A1 n1 c1, .slice A2 n2 c2]) ∧ Below w.heap.size w w'
theorem kscale_room {B : Nat} {A : Option Addr} {n c : Nat} (x : UInt8) {us : List UInt8} {w : World} (h : Rd w B A n us) (hB : B ≤ w.heap.size) (hn : n ≤ 140737488355328) :
    Calls Try.prog 87 #[.int .u8 (bv x), .slice A n c] w fun e w' => ∃ A' c', n ≤ c' ∧ e = .returned (.slice A' n c') ∧ Rd w' w'.heap.size A' n (scaleL x us) ∧ Below w.heap.size w w' :=
  (kscale_any x h hB hn).mono fun e w' ⟨g, he, _, hg, hw⟩ => by
    have hl : (scaleL x us).length = n := by rw [scaleL, List.length_map]; exact h.1
    have hr := (Rd.of_blk hg).more (B' := w'.heap.size) hg.lt
    rw [hl] at hr
    exact ⟨_, _, Nat.le_refl _, he, hr, hw⟩
theorem norm_room {A A2 : Option Addr} {n c n2 c2 : Nat} {r : RowL} {w : World} (hr0 : RowIs w r (.agg #[.slice A n c, .slice A2 n2 c2])) (hlead : ¬ leadI r.1 < 0) :
    Calls Try.prog 65 #[.agg #[.slice A n c, .slice A2 n2 c2]] w (RoomEnds (normR r) w) := by
  obtain ⟨h1, h2, l1, l2⟩ := hr0.parts
  clear hr0
  obtain ⟨hb0, hx, hg⟩ := two_alloc (w := w) (T := 58) (T2 := 58) (cs := #[.slice A n c, .slice A2 n2 c2]) (cs2 := #[.slice none 0 0, .slice none 0 0])
  have q1 := h1.step hb0
  have q2 := h2.step hb0
  have lb := lead_bounds r.1
  have hl := h1.1
  have hz : w.heap.size + 1 < ((w.alloc (.cells #[.slice A n c, .slice A2 n2 c2] 58)).alloc (.cells #[.slice none 0 0, .slice none 0 0] 58)).heap.size := by simp
  obtain ⟨hc0, hc1, hf0, hf1⟩ := cells2 hx
  have CA := fun w1 B q => at_any (w := w1) (c := c) (q : Rd w1 B A n r.1) (by omega) (leadI r.1) (by omega) (by omega)
  have CL := fun w1 B q => lead_any (w := w1) (c := c) (q : Rd w1 B A n r.1) (by omega)
  have e2 : normR r = (scaleL (ginv (atB r.1 (leadI r.1))) r.1, scaleL (ginv (atB r.1 (leadI r.1))) r.2) := by simp [normR, hlead]
  have hat := at_lead hlead
  rw [e2]
  generalize atB r.1 (leadI r.1) = x at *
  generalize leadI r.1 = k at *
  clear e2 hlead lb hl h1 h2
  go_enter Try.func65, Try.ntmps65
  go_wp2_with fail
  go_region_held3 (fun w' => w'.cell? ⟨w.heap.size, 0, none⟩ = some (.slice A n c)) (go_keep) (first | (go_at_call 78; refine (CL _ _ q1.drew).mono ?_; rintro e w' ⟨rfl, rfl⟩) | (go_at_call 82; refine (CA _ _ q1.drew).mono ?_; rintro e w' ⟨rfl, rfl⟩) | (go_at_call 86; refine (inv_some _ hat _).mono ?_; rintro e w' ⟨rfl, rfl⟩))
  go_wp2_with fail
  clear CA CL
  have q1' := q1.dd.dd
  have q2' := q2.dd.dd
  have hb0' := hb0.drew.drew
  have hg' := hg.drew.drew
  have hx' := hx.drew.drew
  have hz0 := Nat.lt_of_succ_lt hz
  clear q1 q2 hg hx hb0 hc0 hc1 hf0 hf1
  obtain ⟨hc0, hc1, hf0, hf1⟩ := cells2 hx'
  obtain ⟨hd0, hd1, he0, he1⟩ := cells2 hg'
  go_region_held3 (fun w' => w'.cell? ⟨w.heap.size, 0, none⟩ = some (.slice A n c) ∧ w'.cell? ⟨w.heap.size, 1, none⟩ = some (.slice A2 n2 c2)) (first | exact ⟨hc0, hc1⟩ | exact ⟨kc0, kc1⟩ | exact ⟨mc0, mc1⟩ | go_keep) (first | (go_at_call 87; (with_reducible refine (kscale_room (ginv x) q1' (Nat.le_refl _) (by omega)).mono ?_); rintro e w1 ⟨A3, c3, hr3, rfl, r1, b1⟩; have kx := hx'.below b1 hz0; have kg := hg'.below b1 hz; have kb := bstep hb0' b1; have kq2 := q2'.step b1; obtain ⟨kc0, kc1, kf0, kf1⟩ := cells2 kx; obtain ⟨kd0, kd1, ke0, ke1⟩ := cells2 kg) | (go_at_call 87; refine (kscale_room (ginv x) kq2 (Nat.le_refl _) (by omega)).mono ?_; rintro e w2 ⟨A4, c4, hr4, rfl, r2, b2⟩; have mx := kx.below b2 (Nat.lt_of_lt_of_le hz0 b1.size); have mg := kg.below b2 (Nat.lt_of_lt_of_le hz b1.size); have mb := bstep kb b2; have mr1 := r1.step b2; obtain ⟨mc0, mc1, mf0, mf1⟩ := cells2 mx; obtain ⟨md0, md1, me0, me1⟩ := cells2 mg))
  go_wp2_with fail
  refine end_row (v := .agg #[.slice A3 n c3, .slice A4 n2 c4]) mg (by intro W e0 e1; simp [results, Try.results65, go_sem, e0, e1]) rfl fun W hl => ?_
  exact ⟨_, _, _, _, _, _, rfl, hr3, RowIs.mk (hl.row mr1 mg NoBytes.two) (hl.row r2 mg NoBytes.two) l1 l2, hl.below _ _ (by omega) mb⟩
theorem less_room {A A2 A3 A4 : Option Addr} {n c n2 c2 n3 c3 n4 c4 : Nat} {r o : RowL} (x : UInt8) {w : World} (hr0 : RowIs w r (.agg #[.slice A n c, .slice A2 n2 c2])) (hr1 : RowIs w o (.agg #[.slice A3 n3 c3, .slice A4 n4 c4])) (d1 : o.1.length = r.1.length) (d2 : o.2.length = r.2.length) :
    Calls Try.prog 83 #[.agg #[.slice A n c, .slice A2 n2 c2], .int .u8 (bv x), .agg #[.slice A3 n3 c3, .slice A4 n4 c4]] w fun e w' => ∃ A1 n1 c1 A2 n2 c2, e = .returned (.tuple #[.agg #[.slice A1 n1 c1, .slice A2 n2 c2], .int .i64 0]) ∧ n1 ≤ c1 ∧ RowIs w' (lessR r x o).1 (.agg #[.slice A1 n1 c1, .slice A2 n2 c2]) ∧ Below w.heap.size w w' := by
  obtain ⟨h1, h2, l1, l2⟩ := hr0.parts
  obtain ⟨h3, h4, l3, l4⟩ := hr1.parts
  clear hr0 hr1
  obtain ⟨hb0, hx, hy, hg, hz⟩ := three_alloc (w := w) (T := 58) (T2 := 58) (T3 := 58) (cs := #[.slice A n c, .slice A2 n2 c2]) (cs2 := #[.slice A3 n3 c3, .slice A4 n4 c4]) (cs3 := #[.slice none 0 0, .slice none 0 0])
  have q1 := h1.step hb0
  have q2 := h2.step hb0
  have q3 := h3.step hb0
  have q4 := h4.step hb0
  have e1 := h1.1
  have e2 := h2.1
  have e3 := h3.1
  have e4 := h4.1
  obtain rfl : n3 = n := by omega
  obtain rfl : n4 = n2 := by omega
  have C1 := fun W q3 q1 l => axpy_any (w := W) (c := c3) (c2 := c) x (q3 : Rd W W.heap.size A3 n3 o.1) (q1 : Rd W W.heap.size A n3 r.1) (Nat.le_refl _) (Nat.le_refl _) l
  have C2 := fun W q4 q2 l => axpy_any (w := W) (c := c4) (c2 := c2) x (q4 : Rd W W.heap.size A4 n4 o.2) (q2 : Rd W W.heap.size A2 n4 r.2) (Nat.le_refl _) (Nat.le_refl _) l
  have X3 := Lib.hid (show lessR r x o = ((addL x o.1 r.1, addL x o.2 r.2), 0) by simp [lessR, e1, e2, e3, e4])
  have A1 := Lib.hid (show (addL x o.1 r.1).length = n3 by rw [addL_length, e1])
  have A2' := Lib.hid (show (addL x o.2 r.2).length = n4 by rw [addL_length, e2])
  clear h1 h2 h3 h4 d1 d2 e1 e2 e3 e4
  go_enter Try.func83, Try.ntmps83
  go_wp2_with fail
  refine (C1 _ q3 q1 (by omega)).mono ?_
  rintro e w1 ⟨g1, rfl, s1, k1, b1⟩
  have r1 := (Rd.of_blk k1).more (B' := w1.heap.size) k1.lt
  rw [A1.out] at r1
  clear k1
  clear C1
  generalize ((w.alloc (.cells #[.slice A n3 c, .slice A2 n4 c2] 58)).alloc (.cells #[.slice A3 n3 c3, .slice A4 n4 c4] 58)).alloc (.cells #[.slice none 0 0, .slice none 0 0] 58) = W at *
  replace q2 := q2.step b1
  replace q4 := q4.step b1
  replace hb0 := bstep hb0 b1
  replace hx := hx.below b1 (by omega)
  replace hy := hy.below b1 (by omega)
  replace hg := hg.below b1 (by omega)
  have hz1 := b1.size
  clear b1 q1 q3
  obtain ⟨hc0, hc1, hf0, hf1⟩ := cells2 hx
  obtain ⟨hd0, hd1, he0, he1⟩ := cells2 hy
  obtain ⟨hm0, hm1, hn0, hn1⟩ := cells2 hg
  go_wp2_with fail
  refine (C2 _ q4 q2 (by omega)).mono ?_
  rintro e w2 ⟨g2, rfl, s2, k2, b2⟩
  have r2 := (Rd.of_blk k2).more (B' := w2.heap.size) k2.lt
  rw [A2'.out] at r2
  clear k2
  clear C2
  replace r1 := r1.step b2
  replace hb0 := bstep hb0 b2
  replace hg := hg.below b2 (by omega)
  clear hx hy b2 q2 q4 hc0 hc1 hf0 hf1 hd0 hd1 he0 he1 hm0 hm1 hn0 hn1
  obtain ⟨hc0, hc1, hf0, hf1⟩ := cells2 hg
  go_wp2_with fail
  refine end_row (v := .tuple #[.agg #[.slice (some ⟨g1, 0, none⟩) n3 n3, .slice (some ⟨g2, 0, none⟩) n4 n4], .int .i64 0]) hg (by intro W e0 e1; simp [results, Try.results83, go_sem, e0, e1]) rfl fun W hl => ?_
  rw [X3.out]
  exact ⟨_, _, _, _, _, _, rfl, Nat.le_refl _, RowIs.mk (hl.row r1 hg NoBytes.two) (hl.row r2 hg NoBytes.two) (by omega) (by omega), hl.below _ _ (by omega) hb0⟩
theorem efrom_room {w : World} {r o : RowL} {A1 A2 A3 A4 : Option Addr} {n1 c1 n2 c2 n3 c3 n4 c4 : Nat} (hx : RowIs w o (.agg #[.slice A1 n1 c1, .slice A2 n2 c2])) (hy : RowIs w r (.agg #[.slice A3 n3 c3, .slice A4 n4 c4])) (hroom : n3 ≤ c3) (e1 : o.1.length = r.1.length) (e2 : o.2.length = r.2.length) :
    Calls Try.prog 62 #[.agg #[.slice A1 n1 c1, .slice A2 n2 c2, .int .i64 (leadI o.1)], .agg #[.slice A3 n3 c3, .slice A4 n4 c4]] w (RoomEnds (lessAt r o (leadI o.1)) w) := by
  obtain ⟨p1, p2, l1, l2⟩ := hx.parts
  obtain ⟨p3, p4, l3, l4⟩ := hy.parts
  have hlb := lead_bounds o.1
  have hl1 := p1.1
  obtain ⟨hb0, bx, by_, hg, hz⟩ := three_alloc (w := w) (T := 102) (T2 := 58) (T3 := 58) (cs := #[.slice A1 n1 c1, .slice A2 n2 c2, .int .i64 (leadI o.1)]) (cs2 := #[.slice A3 n3 c3, .slice A4 n4 c4]) (cs3 := #[.slice none 0 0, .slice none 0 0])
  have ro : RowIs _ o _ := hx.step hb0
  have rr : RowIs _ r _ := (RowIs.mk (c := c3) (c2 := c4) p3 p4 l3 l4).step hb0
  have HZ := Lib.hid fun (h : atB r.1 (leadI o.1) = 0) => less_none0 e1 e2 h
  have HL : Hid (lessAt r o (leadI o.1) = (lessR r (atB r.1 (leadI o.1)) o).1) := Lib.hid rfl
  have hlo : -9223372036854775808 ≤ leadI o.1 ∧ leadI o.1 ≤ 9223372036854775807 := by omega
  have E1 := Lib.hid e1
  have E2 := Lib.hid e2
  clear p1 p2 p3 p4 hx hy e1 e2 hlb hl1
  generalize leadI o.1 = L at *
  obtain ⟨c0, c1', c2', _, _, _⟩ := cells3 bx
  obtain ⟨d0, d1, _, _⟩ := cells2 by_
  go_enter Try.func62, Try.ntmps62
  go_wp2_with fail
  generalize ((w.alloc (.cells #[.slice A1 n1 c1, .slice A2 n2 c2, .int .i64 L] 102)).alloc (.cells #[.slice A3 n3 c3, .slice A4 n4 c4] 58)).alloc (.cells #[.slice none 0 0, .slice none 0 0] 58) = V at *
  refine (c_at rr L hlo.1 hlo.2).mono ?_
  rintro e w' ⟨rfl, rfl⟩
  by_cases ha : atB r.1 L = 0
  · have hr := HZ.out ha
    rw [ha]
    obtain ⟨f0, f1, f2, f3⟩ := cells2 hg
    have hbv : bv 0 = 0 := rfl
    go_wp2_with fail
    obtain ⟨r11, r12, l11, l12⟩ := rr.parts
    refine end_row (v := .agg #[.slice A3 n3 c3, .slice A4 n4 c4]) hg (by intro W e0 e1; simp [results, Try.results62, go_sem, e0, e1]) rfl fun W hl => ?_
    rw [hr]
    exact ⟨_, _, _, _, _, _, rfl, hroom, RowIs.mk (hl.row r11 hg NoBytes.two) (hl.row r12 hg NoBytes.two) l11 l12, hl.below _ _ (by omega) hb0⟩
  · generalize atB r.1 L = a at *
    have hbv : (bv a == 0) = false := by
      rw [beq_eq_false_iff_ne]
      intro e
      exact ha (UInt8.toNat_inj.1 (by unfold bv at e; simpa using e))
    go_wp2_with fail
    refine (less_room a rr ro E1.out E2.out).mono ?_
    rintro e w7 ⟨A7, n7, c7, A8, n8, c8, rfl, hr7, r7, b7⟩
    replace hg := hg.below b7 hg.lt
    replace hb0 := bstep hb0 b7
    clear c0 c1' c2' d0 d1 bx by_ b7
    have b8 := Blk.new w7 58 #[.slice A7 n7 c7, .slice A8 n8 c8]
    have k := balloc w7 (.cells #[.slice A7 n7 c7, .slice A8 n8 c8] 58)
    replace r7 := r7.step k
    replace hg := hg.below k hg.lt
    replace hb0 := bstep hb0 k
    clear k
    obtain ⟨f0, f1, f2, f3⟩ := cells2 hg
    obtain ⟨g0, g1, _, _⟩ := cells2 b8
    go_wp2_with fail
    obtain ⟨r11, r12, l11, l12⟩ := r7.parts
    refine end_row (v := .agg #[.slice A7 n7 c7, .slice A8 n8 c8]) hg (by intro W e0 e1; simp [results, Try.results62, go_sem, e0, e1]) rfl fun W hl => ?_
    rw [HL.out]
    exact ⟨_, _, _, _, _, _, rfl, hr7, RowIs.mk (hl.row r11 hg NoBytes.two) (hl.row r12 hg NoBytes.two) l11 l12, hl.below _ _ (by omega) hb0⟩
end Go.Proofs.Ytaidbcppecoenaa

/- Package elim: a system in memory. -/
namespace Go.Proofs.Ytaidbcppecoenaa
open Go.RowKit
set_option linter.unusedVariables false
set_option maxRecDepth 100000

/-- Cells, three for each step, that read as these rows and where they lead. -/
def StepsOf (w : World) (L : List RowL) (xs : List Value) : Prop := xs.length = L.length * 3 ∧ ∀ i r, L[i]? = some r → ∃ A1 n1 c1 A2 n2 c2,
  xs[i * 3]? = some (.slice A1 n1 c1) ∧ xs[i * 3 + 1]? = some (.slice A2 n2 c2) ∧ xs[i * 3 + 2]? = some (.int .i64 (leadI r.1)) ∧ RowIs w r (.agg #[.slice A1 n1 c1, .slice A2 n2 c2]) ∧ n1 ≤ c1
theorem StepsOf.nil (w : World) : StepsOf w [] [] := ⟨rfl, fun i r h => by simp at h⟩
theorem StepsOf.step {w w' : World} {L : List RowL} {xs : List Value} (h : StepsOf w L xs) (hb : Below w.heap.size w w') : StepsOf w' L xs := ⟨h.1, fun i r hi => by
  obtain ⟨A1, n1, c1, A2, n2, c2, e0, e1, e2, hr⟩ := h.2 i r hi
  exact ⟨A1, n1, c1, A2, n2, c2, e0, e1, e2, hr.1.step hb, hr.2⟩⟩
theorem StepsOf.chg {P : Nat → Prop} {w w' : World} {L : List RowL} {xs : List Value} (h : StepsOf w L xs) (hc : Chg P w w') (hp : Byteless w P) : StepsOf w' L xs := ⟨h.1, fun i r hi => by
  obtain ⟨A1, n1, c1, A2, n2, c2, e0, e1, e2, hr⟩ := h.2 i r hi
  exact ⟨A1, n1, c1, A2, n2, c2, e0, e1, e2, hr.1.chg hc hp, hr.2⟩⟩
theorem StepsOf.at3 {w : World} {L : List RowL} {xs : List Value} (h : StepsOf w L xs) (j : Nat) (u : Value) (hu : xs[j]? = some u) : (∃ A n c, u = .slice A n c) ∨ ∃ z, u = .int .i64 z := by
  have hl := h.1
  have hj := (List.getElem?_eq_some_iff.1 hu).1
  obtain ⟨A1, n1, c1, A2, n2, c2, e0, e1, e2, _⟩ := h.2 (j / 3) L[j / 3] (List.getElem?_eq_getElem (by omega))
  have h3 : j % 3 < 3 := Nat.mod_lt _ (by omega)
  match hm : j % 3, h3 with
  | 0, _ =>
    rw [show j / 3 * 3 = j by omega, hu] at e0
    injection e0 with e0
    exact .inl ⟨_, _, _, e0⟩
  | 1, _ =>
    rw [show j / 3 * 3 + 1 = j by omega, hu] at e1
    injection e1 with e1
    exact .inl ⟨_, _, _, e1⟩
  | 2, _ =>
    rw [show j / 3 * 3 + 2 = j by omega, hu] at e2
    injection e2 with e2
    exact .inr ⟨_, e2⟩
theorem StepsOf.one {w : World} {L : List RowL} {xs : List Value} (h : StepsOf w L xs) : ∀ u ∈ xs, u.oneCell' = true := by
  intro u hu
  obtain ⟨j, hj, e⟩ := List.getElem_of_mem hu
  rcases h.at3 j u (by rw [List.getElem?_eq_getElem hj, e]) with ⟨A, n, c, rfl⟩ | ⟨z, rfl⟩ <;> rfl
theorem SRow.val {w : World} {v : Value} {n : Nat} {xs : List Value} (h : SRow w v n xs) : ∃ A c, v = .slice A n c ∧ n ≤ c ∧ c ≤ 9223372036854775807 := by
  rcases h.2.2 with ⟨rfl, rfl⟩ | ⟨R, cap, rfl, h1, h2, _⟩
  · exact ⟨none, 0, rfl, by omega, by omega⟩
  · exact ⟨_, cap, rfl, h1, h2⟩
theorem SRow.keep {w w' : World} {v : Value} {n : Nat} {xs : List Value} (h : SRow w v n xs) (hk : ∀ g, some g = v.ownBlock → g < w.heap.size → w'.heap[g]? = w.heap[g]?) : SRow w' v n xs := by
  obtain ⟨h1, h2, ⟨rfl, rfl⟩ | ⟨R, cap, rfl, h3, h4, h5⟩⟩ := h
  · exact ⟨h1, h2, .inl ⟨rfl, rfl⟩⟩
  · exact ⟨h1, h2, .inr ⟨R, cap, rfl, h3, h4, (hk R rfl h5.lt).trans h5⟩⟩
theorem SRow.step {w w' : World} {v : Value} {n : Nat} {xs : List Value} (h : SRow w v n xs) (hb : Below w.heap.size w w') : SRow w' v n xs := h.keep fun g _ hg => hb.block g hg
theorem SRow.lt {w : World} {v : Value} {n : Nat} {xs : List Value} (h : SRow w v n xs) {g : Nat} (hg : some g = v.ownBlock) : g < w.heap.size := by
  rcases h.2.2 with ⟨rfl, rfl⟩ | ⟨R, cap, rfl, _, _, h5⟩
  · simp [Value.ownBlock] at hg
  · simp [Value.ownBlock] at hg
    subst hg
    exact h5.lt
/-- A system of k symbols of t bytes: these rows, each with a 1 where all others have a 0. -/
def Sys (w : World) (p k t : Nat) (L : List RowL) (v : Value) : Prop :=
  Blk w p 99 #[.int .i64 (k : Int), .int .i64 (t : Int), v] ∧ (∃ xs, SRow w v L.length xs ∧ StepsOf w L xs) ∧ Good k t L ∧ Red (ledE L) ∧ 1 ≤ k ∧ k ≤ 4096 ∧ t ≤ 65535 ∧ some p ≠ v.ownBlock
theorem Sys.step {w w' : World} {p k t : Nat} {L : List RowL} {v : Value} (h : Sys w p k t L v) (hb : Below w.heap.size w w') : Sys w' p k t L v := by
  obtain ⟨h1, ⟨xs, h2, h3⟩, h4⟩ := h
  exact ⟨h1.below hb h1.lt, ⟨xs, h2.step hb, h3.step hb⟩, h4⟩
/-- The blocks that a system's calls may change. -/
def Its (p : Nat) (v : Value) : Nat → Prop := fun g => g = p ∨ some g = v.ownBlock
theorem Sys.byteless {w : World} {p k t : Nat} {L : List RowL} {v : Value} (h : Sys w p k t L v) : Byteless w (Its p v) := by
  obtain ⟨h1, ⟨xs, h2, h3⟩, _⟩ := h
  obtain ⟨A, c, hv, _⟩ := h2.val
  intro g hg i u hu
  rcases hg with rfl | hg
  · rw [h1.cell] at hu
    subst hv
    match i, hu with
    | 0, hu => simp at hu
    | 1, hu => simp at hu
    | 2, hu => simp at hu
    | i + 3, hu => simp at hu
  · rcases h2.2.2 with ⟨rfl, _⟩ | ⟨R, cap, rfl, _, _, h5⟩
    · simp [Value.ownBlock] at hg
    · simp [Value.ownBlock] at hg
      subst hg
      rw [h5.cell, List.getElem?_toArray] at hu
      by_cases hi : i < xs.length
      · rw [List.getElem?_append_left hi] at hu
        rcases h3.at3 i _ hu with ⟨A, n, c, e⟩ | ⟨z, e⟩
        · cases e
        · injection e with e1 e2; cases e1
      · rw [List.getElem?_append_right (by omega)] at hu
        by_cases hz : i - xs.length < (cap - L.length) * 3
        · rw [zer_at hz] at hu
          split at hu
          · injection hu with hu; injection hu with e1 e2; cases e1
          · injection hu with hu; cases hu
        · rw [List.getElem?_eq_none (by rw [zer_len]; omega)] at hu
          cases hu
theorem Sys.chg {P : Nat → Prop} {w w' : World} {p k t : Nat} {L : List RowL} {v : Value} (h : Sys w p k t L v) (hc : Chg P w w') (hp : Byteless w P) (hd : ∀ g, Its p v g → ¬ P g) : Sys w' p k t L v := by
  obtain ⟨h1, ⟨xs, h2, h3⟩, h4⟩ := h
  exact ⟨h1.chg hc (hd p (.inl rfl)), ⟨xs, h2.keep fun g hg hlt => hc.block g hlt (hd g (.inr hg)), h3.chg hc hp⟩, h4⟩
theorem Sys.at_room {w : World} {p k t j : Nat} {L : List RowL} {v : Value} (h : Sys w p k t L v) (hj : j < L.length) : ∃ R cap A1 n1 c1 A2 n2 c2, v = .slice (some ⟨R, 0, none⟩) L.length cap ∧ R < w.heap.size ∧
    w.cell? ⟨R, j * 3, none⟩ = some (.slice A1 n1 c1) ∧ w.cell? ⟨R, j * 3 + 1, none⟩ = some (.slice A2 n2 c2) ∧ w.cell? ⟨R, j * 3 + 2, none⟩ = some (.int .i64 (leadI (L[j]?.getD ([], [])).1)) ∧ RowIs w (L[j]?.getD ([], [])) (.agg #[.slice A1 n1 c1, .slice A2 n2 c2]) ∧ n1 ≤ c1 := by
  obtain ⟨h1, ⟨xs, h2, h3⟩, h4⟩ := h
  obtain ⟨A1, n1, c1, A2, n2, c2, e0, e1, e2, hr⟩ := h3.2 j L[j] (List.getElem?_eq_getElem hj)
  rcases h2.2.2 with ⟨_, h0⟩ | ⟨R, cap, rfl, h5, h6, h7⟩
  · omega
  · have hl := h3.1
    have hc : ∀ i, i < xs.length → w.cell? ⟨R, i, none⟩ = xs[i]? := fun i hi => by
      rw [h7.cell, List.getElem?_toArray, List.getElem?_append_left hi]
    rw [List.getElem?_eq_getElem hj]
    exact ⟨R, cap, A1, n1, c1, A2, n2, c2, rfl, h7.lt, (hc _ (by omega)).trans e0, (hc _ (by omega)).trans e1, (hc _ (by omega)).trans e2, hr⟩
theorem Sys.at_ {w : World} {p k t j : Nat} {L : List RowL} {v : Value} (h : Sys w p k t L v) (hj : j < L.length) : ∃ R cap A1 n1 c1 A2 n2 c2, v = .slice (some ⟨R, 0, none⟩) L.length cap ∧ R < w.heap.size ∧
    w.cell? ⟨R, j * 3, none⟩ = some (.slice A1 n1 c1) ∧ w.cell? ⟨R, j * 3 + 1, none⟩ = some (.slice A2 n2 c2) ∧ w.cell? ⟨R, j * 3 + 2, none⟩ = some (.int .i64 (leadI (L[j]?.getD ([], [])).1)) ∧ RowIs w (L[j]?.getD ([], [])) (.agg #[.slice A1 n1 c1, .slice A2 n2 c2]) := by
  obtain ⟨R, cap, A1, n1, c1, A2, n2, c2, h1, h2, h3, h4, h5, h6, _⟩ := h.at_room hj
  exact ⟨R, cap, A1, n1, c1, A2, n2, c2, h1, h2, h3, h4, h5, h6⟩
theorem Sys.len {w : World} {p k t : Nat} {L : List RowL} {v : Value} (h : Sys w p k t L v) : L.length ≤ k := by
  obtain ⟨_, _, h3, _⟩ := h
  have h4 : (ledE L).length ≤ k := h3.ech.len_le fun i hi => by
    obtain ⟨e, he, rfl⟩ := mem_leads.1 hi
    obtain ⟨r, hr, rfl⟩ := led_mem.1 he
    obtain ⟨z1, _, z3⟩ := h3.1 r hr
    have := lead_bounds r.1
    simp only
    omega
  simpa [ledE] using h4
theorem Sys.lt {w : World} {p k t : Nat} {L : List RowL} {v : Value} (h : Sys w p k t L v) : ∀ g, Its p v g → g < w.heap.size := by
  obtain ⟨h1, ⟨xs, h2, _⟩, _⟩ := h
  intro g hg
  rcases hg with rfl | hg
  · exact h1.lt
  · exact h2.lt hg
/-- A row of the call's own, turned. -/
theorem Sys.turn {w : World} {p k t g : Nat} {L : List RowL} {v x y x0 y0 : Value} {T : TypeId} (h : Sys w p k t L v) (hg : Blk w g T #[x0, y0]) (hn : NoBytes #[x0, y0]) (hd : ¬ Its p v g) : Sys ((w.setCell ⟨g, 0, none⟩ x).setCell ⟨g, 1, none⟩ y) p k t L v := by
  refine h.chg (P := fun q => q = g) (((Chg.refl (fun q => q = g) w).setCell (p := ⟨g, 0, none⟩) (by rfl) x).setCell (p := ⟨g, 1, none⟩) (by rfl) y) (fun q hq i u hu => ?_) (fun q hq e => hd (e ▸ hq))
  subst hq
  rw [hg.cell] at hu
  exact hn i _ u hu rfl
theorem Sys.new {w : World} {k t : Nat} (h1 : 1 ≤ k) (h2 : k ≤ 4096) (h3 : t ≤ 65535) : Sys (w.alloc (.cells #[.int .i64 (k : Int), .int .i64 (t : Int), .slice none 0 0] 99)) w.heap.size k t [] (.slice none 0 0) :=
  ⟨Blk.new _ _ _, ⟨[], SRow.nil _, StepsOf.nil _⟩, Good.nil _ _, ⟨Ech.nil, fun e he => by simp [ledE] at he⟩, h1, h2, h3, by simp [Value.ownBlock]⟩
theorem erank_any {w : World} {p k t : Nat} {L : List RowL} {v : Value} (h : Sys w p k t L v) : Calls Try.prog 41 #[.pointer (some ⟨p, 0, none⟩)] w fun e w' => e = .returned (.int .i64 (L.length : Int)) ∧ w = w' := by
  obtain ⟨h1, ⟨xs, h2, h3⟩, h4⟩ := h
  obtain ⟨A, c, rfl, _⟩ := h2.val
  obtain ⟨c0, c1', c2', _, _, _⟩ := cells3 h1
  go_enter Try.func41, Try.ntmps41
  go_wp2_with fail
  go_ret
  exact ⟨rfl, rfl⟩
end Go.Proofs.Ytaidbcppecoenaa

/- Package elim: Rest. -/
namespace Go.Proofs.Ytaidbcppecoenaa
open Go.RowKit
set_option linter.unusedVariables false
set_option maxRecDepth 100000

/-- What Rest tells. -/
def RestEnds (x : RowL) (z : Int) (w : World) (e : Ending) (w' : World) : Prop := ∃ v, e = .returned (.tuple #[v, .int .i64 z]) ∧ RowIs w' x v ∧ Below w.heap.size w w'
set_option maxHeartbeats 600000 in
theorem erest_any {w : World} {p k t : Nat} {L : List RowL} {v : Value} {r : RowL} {y : Value} (h : Sys w p k t L v) (hr : RowIs w r y) (e1 : r.1.length = k) (e2 : r.2.length = t) :
    Calls Try.prog 30 #[.pointer (some ⟨p, 0, none⟩), y] w (RestEnds (restL L r) 0 w) := by
  obtain ⟨A1, n1, c1, A2, n2, c2, rfl, p1, p2, l1, l2⟩ := hr
  obtain ⟨hb0, bx, hg⟩ := two_alloc (w := w) (T := 58) (T2 := 58) (cs := #[.slice A1 n1 c1, .slice A2 n2 c2]) (cs2 := #[.slice none 0 0, .slice none 0 0])
  have rr : RowIs _ r _ := (RowIs.mk (c := c1) (c2 := c2) p1 p2 l1 l2).step hb0
  have HS := h.step hb0
  have hkn : k = n1 := e1.symm.trans p1.1
  have htn : t = n2 := e2.symm.trans p2.1
  subst hkn
  subst htn
  have Hlen := h.len
  have Hk := h.2.2.2.2.2.1
  obtain ⟨A, c, rfl, hcc⟩ : ∃ A c, v = .slice A L.length c ∧ L.length ≤ c := by
    obtain ⟨_, ⟨xs, h2, _⟩, _⟩ := h
    obtain ⟨A, c, e, h3, _⟩ := h2.val
    exact ⟨A, c, e, h3⟩
  have Hsuit := Lib.hid h.2.2.1.1
  have HI := Lib.hid h.lt
  have H1 := Lib.hid e1
  have H2 := Lib.hid e2
  clear h p1 p2 e1 e2
  obtain ⟨d0, d1, _, _⟩ := cells2 bx
  obtain ⟨s0, s1, s2, _, _, _⟩ := cells3 HS.1
  go_enter Try.func30, Try.ntmps30
  go_wp2_with fail
  generalize (w.alloc (.cells #[.slice A1 k c1, .slice A2 t c2] 58)).alloc (.cells #[.slice none 0 0, .slice none 0 0] 58) = V at *
  go_quiet (fail)
  have kq : Below V.heap.size V (V.drewN nq) := below_drewN (Below.refl _ _) nq
  replace rr := rr.step kq
  replace HS := HS.step kq
  replace bx := bx.below kq bx.lt
  replace hg := hg.below kq hg.lt
  replace hb0 := bstep hb0 kq
  clear d0 d1 s0 s1 s2 kq
  generalize V.drewN nq = V2 at *
  have hgl := hg.lt
  obtain ⟨d0, d1, _, _⟩ := cells2 bx
  go_wp2_with fail
  obtain ⟨q1, q2, _, _⟩ := rr.parts
  refine (rclone_any (us := r.1) (vs := r.2) q1 q2 l1 l2).mono ?_
  rintro e w1 ⟨x1, rfl, ⟨A3, n3, c3, A4, n4, c4, rfl, r1, r2, l3, l4⟩, b1⟩
  have b6 := Blk.new w1 58 #[.slice A3 n3 c3, .slice A4 n4 c4]
  have k6 := balloc w1 (.cells #[.slice A3 n3 c3, .slice A4 n4 c4] 58)
  have H6 : Holds (w1.alloc (.cells #[.slice A3 n3 c3, .slice A4 n4 c4] 58)) w1.heap.size 58 r := Holds.new (RowIs.mk (r := r) r1 r2 l3 l4)
  have hz1 := b1.size
  have bb := bstep b1 k6
  replace HS := HS.step bb
  replace hg := hg.below bb hg.lt
  replace hb0 := bstep hb0 bb
  have hzz : w.heap.size + 1 < w1.heap.size := by omega
  clear d0 d1 b1 k6 bb r1 r2 rr bx q1 q2 b6 hgl hz1
  obtain ⟨s0, s1, s2, _, _, _⟩ := cells3 HS.1
  go_wp2_with fail
  generalize hW : w1.alloc (.cells #[.slice A3 n3 c3, .slice A4 n4 c4] 58) = W at *
  generalize w1.heap.size = x6 at *
  clear hW s0 s1 s2
  go_loopw [40] (fun i wr => ∃ j : Nat, j ≤ L.length ∧ i = .int .i64 (j : Int) ∧ Holds wr x6 58 (restL (L.take j) r) ∧ Blk wr (w.heap.size + 1) 58 #[.slice none 0 0, .slice none 0 0] ∧ Sys wr p k t L (.slice A L.length c) ∧ Below w.heap.size w wr) (fun i _ => L.length - (intOf i).toNat)
  case atStart => exact ⟨0, by omega, rfl, H6, hg, HS, hb0⟩
  case round =>
    clear H6 hg HS hb0
    obtain ⟨j, hj, rfl, hH, hg, hS, hb⟩ := hrel
    by_cases hlt : j < L.length
    · obtain ⟨R, cap, A5, n5, c5, A6, n6, c6, e, hR, k0, k1, k2, r5⟩ := hS.at_ hlt
      injection e with e3 e4 e5
      subst e3 e5
      have HX := Lib.hid (rest_snoc L r j hlt)
      have hz := suit_at Hsuit.out hlt
      have hw := rest_len (suit_take Hsuit.out j) r H1.out H2.out
      have E1 := Lib.hid (hz.1.trans hw.1.symm)
      have E2 := Lib.hid (hz.2.1.trans hw.2.symm)
      clear hz hw
      generalize L[j]?.getD ([], []) = o at *
      generalize restL (L.take j) r = x at *
      obtain ⟨A7, n7, c7, A8, n8, c8, b6, r6⟩ := hH
      have kb := balloc wr (.cells #[.slice A5 n5 c5, .slice A6 n6 c6, .int .i64 (leadI o.1)] 102)
      have b8 := Blk.new wr 102 #[.slice A5 n5 c5, .slice A6 n6 c6, .int .i64 (leadI o.1)]
      have b6' := b6.below kb b6.lt
      obtain ⟨f0, f1, f2, _, _, _⟩ := cells3 b8
      obtain ⟨g0, g1, _, _⟩ := cells2 b6'
      go_wp2_with fail
      have C := efrom_any (r5.step kb) (r6.step kb) E1.out E2.out
      refine C.mono ?_
      rintro e w3 ⟨v3, rfl, ⟨A9, n9, c9, A10, n10, c10, rfl, q9, q10, l9, l10⟩, b9⟩
      have kk := bstep kb b9
      replace b6 := b6.below kk b6.lt
      replace hg := hg.below kk hg.lt
      replace hS := hS.step kk
      replace hb := bstep hb kk
      have r9 : RowIs w3 (lessAt x o (leadI o.1)) (.agg #[.slice A9 n9 c9, .slice A10 n10 c10]) := RowIs.mk q9 q10 l9 l10
      clear C kb b8 b6' f0 f1 f2 g0 g1 kk b9 k0 k1 k2 r5 r6 q9 q10
      obtain ⟨g0, g1, g2, g3⟩ := cells2 b6
      go_wp2_with fail
      have hH2 := Holds.turn b6 NoBytes.two r9
      rw [← HX.out] at hH2
      have hS2 := hS.turn (x := .slice A9 n9 c9) (y := .slice A10 n10 c10) b6 NoBytes.two (fun e => by have := HI.out _ e; omega)
      have hg2 := (hg.far (p := (⟨x6, 0, none⟩ : Addr)) (show w.heap.size + 1 ≠ x6 by omega) (.slice A9 n9 c9)).far (p := (⟨x6, 1, none⟩ : Addr)) (show w.heap.size + 1 ≠ x6 by omega) (.slice A10 n10 c10)
      have hb2 := (hb.setCell (p := ⟨x6, 0, none⟩) (show w.heap.size ≤ x6 by omega) (.slice A9 n9 c9)).setCell (p := ⟨x6, 1, none⟩) (show w.heap.size ≤ x6 by omega) (.slice A10 n10 c10)
      go_roundw
      case rel => exact ⟨j + 1, by omega, by go_num, hH2, hg2, hS2, hb2⟩
      case measure => simp [intOf]; omega
    · obtain rfl : j = L.length := by omega
      rw [List.take_length] at hH
      obtain ⟨A7, n7, c7, A8, n8, c8, b6, r6⟩ := hH
      obtain ⟨g0, g1, _, _⟩ := cells2 b6
      obtain ⟨f0, f1, f2, f3⟩ := cells2 hg
      go_wp2_with fail
      obtain ⟨r11, r12, l11, l12⟩ := r6.parts
      refine end_row (v := .tuple #[.agg #[.slice A7 n7 c7, .slice A8 n8 c8], .int .i64 0]) hg (by intro W e0 e1; simp [results, Try.results30, go_sem, e0, e1]) rfl fun W hl => ?_
      exact ⟨_, rfl, RowIs.mk (hl.row r11 hg NoBytes.two) (hl.row r12 hg NoBytes.two) l11 l12, hl.below _ _ (by omega) hb⟩
end Go.Proofs.Ytaidbcppecoenaa

