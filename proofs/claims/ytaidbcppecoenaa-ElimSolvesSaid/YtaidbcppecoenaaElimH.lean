import Derived.Test.YtaidbcppecoenaaElimG
/- Package elim: Put. -/
namespace Go.Proofs.Ytaidbcppecoenaa
open Go.RowKit
set_option linter.unusedVariables false
set_option maxRecDepth 100000

/-- What comes of an equation: the rows then, and what it came to. -/
def putL (L : List RowL) (r : RowL) : List RowL × Int := if 0 ≤ leadI (restL L r).1 then (growL (normR (restL L r)) L, 0) else if zeroB (restL L r).2 then (L, 1) else (L, 2)
theorem comes_of {k t i : Nat} {L : List RowL} {r : RowL} (h : Good k t L) (hR : Red (ledE L)) (h1 : r.1.length = k) (h2 : r.2.length = t) (hi : leadI (restL L r).1 = (i : Int)) : Comes k t L (normR (restL L r)) i := by
  obtain ⟨k1, k2⟩ := normed hi
  obtain ⟨n1, n2⟩ := norm_len (restL L r)
  obtain ⟨z1, z2⟩ := rest_len h.1 r h1 h2
  refine ⟨n1.trans z1, n2.trans z2, k1, k2, fun j hj => ?_⟩
  have e : (pt (normR (restL L r))).v j = gm (ginv ((pt (restL L r)).v i)) ((pt (restL L r)).v j) := by
    rw [pt_norm hi, scl_v]
  rw [e, pt_rest h.1 h1 h2, hR.clr_zero j hj, gm_zero_right]
theorem room_of {k t i : Nat} {L : List RowL} {r : RowL} (h : Good k t L) (h1 : r.1.length = k) (h2 : r.2.length = t) (hi : leadI (restL L r).1 = (i : Int)) : L.length < k := by
  have hn := rest_new h h1 h2 hi
  have hib : i < k := by
    have := (lead_fn_ne hi).2.2
    rw [(rest_len h.1 r h1 h2).1] at this
    exact this
  obtain ⟨k1, k2⟩ := normed hi
  have hE : Ech ((i, pt (normR (restL L r))) :: ledE L) := h.ech.cons hn k2 (lead_fn_ne k1).2.1
  have h4 := hE.len_le (w := k) fun j hj => by
    rcases List.mem_cons.1 hj with rfl | hj
    · exact hib
    · obtain ⟨e, he, rfl⟩ := mem_leads.1 hj
      obtain ⟨q, hq, rfl⟩ := led_mem.1 he
      obtain ⟨z1, _, z3⟩ := h.1 q hq
      have := lead_bounds q.1
      simp only
      omega
  simp [ledE] at h4
  omega
/-- What Put leaves. -/
def PutEnds (p k t : Nat) (v : Value) (L : List RowL) (z err : Int) (w : World) (e : Ending) (w' : World) : Prop :=
  ∃ v', e = .returned (.tuple #[.int .i64 z, .int .i64 err]) ∧ Sys w' p k t L v' ∧ (∀ g, Its p v' g → Its p v g ∨ w.heap.size ≤ g) ∧ Chg (Its p v) w w'
set_option maxHeartbeats 600000 in
theorem eput_ok {w : World} {p k t : Nat} {L : List RowL} {v : Value} {r : RowL} {y : Value} (h : Sys w p k t L v) (hr : RowIs w r y) (e1 : r.1.length = k) (e2 : r.2.length = t) :
    Calls Try.prog 32 #[.pointer (some ⟨p, 0, none⟩), y] w (PutEnds p k t v (putL L r).1 (putL L r).2 0 w) := by
  obtain ⟨A1, n1, c1, A2, n2, c2, rfl, p1, p2, l1, l2⟩ := hr
  have hb0 := balloc w (.cells #[.slice A1 n1 c1, .slice A2 n2 c2] 58)
  have b3 := Blk.new w 58 #[.slice A1 n1 c1, .slice A2 n2 c2]
  have rr : RowIs _ r _ := (RowIs.mk (c := c1) (c2 := c2) p1 p2 l1 l2).step hb0
  have HS := h.step hb0
  have HG := Lib.hid h.2.2.1
  have HRd := Lib.hid h.2.2.2.1
  have H1 := Lib.hid e1
  have H2 := Lib.hid e2
  obtain ⟨d0, d1, _, _⟩ := cells2 b3
  clear h p1 p2 e1 e2
  go_enter Try.func32, Try.ntmps32
  go_wp2_with fail
  refine (erest_any HS rr H1.out H2.out).mono ?_
  rintro e w1 ⟨v1, rfl, ⟨A3, n3, c3, A4, n4, c4, rfl, q3, q4, l3, l4⟩, kb1⟩
  have b6 := Blk.new w1 58 #[.slice A3 n3 c3, .slice A4 n4 c4]
  have k6 := balloc w1 (.cells #[.slice A3 n3 c3, .slice A4 n4 c4] 58)
  have r6 : RowIs _ (restL L r) _ := (RowIs.mk (r := restL L r) (c := c3) (c2 := c4) q3 q4 l3 l4).step k6
  have kk := bstep kb1 k6
  replace HS := HS.step kk
  have hb1 := bstep hb0 kk
  obtain ⟨f0, f1, _, _⟩ := cells2 b6
  clear d0 d1 b3 rr kb1 k6 kk q3 q4 hb0
  go_wp2_with fail
  generalize w1.alloc (.cells #[.slice A3 n3 c3, .slice A4 n4 c4] 58) = V at *
  obtain ⟨q3, q4, _, _⟩ := r6.parts
  refine (vzero_any q3 (by omega)).mono ?_
  rintro e w' ⟨rfl, rfl⟩
  have hzl := lead_zero (restL L r).1
  by_cases hneg : leadI (restL L r).1 < 0
  · have hz : zeroB (restL L r).1 = true := by rw [hzl]; simpa using hneg
    rw [hz]
    have hP : putL L r = if zeroB (restL L r).2 then (L, 1) else (L, 2) := by unfold putL; rw [if_neg (by omega)]
    have HP := Lib.hid hP
    clear hP hzl hneg hz
    go_wp2_with fail
    refine (vzero_any q4 (by omega)).mono ?_
    rintro e w' ⟨rfl, rfl⟩
    cases hd : zeroB (restL L r).2
    · have hP := HP.out
      rw [hd, if_neg (by simp)] at hP
      replace HP := Lib.hid hP
      clear hP hd
      go_wp2_with fail
      go_ret2
      rw [HP.out]
      exact ⟨v, rfl, HS, fun g hg => .inl hg, Chg.of_below hb1⟩
    · have hP := HP.out
      rw [hd, if_pos rfl] at hP
      replace HP := Lib.hid hP
      clear hP hd
      go_wp2_with fail
      go_ret2
      rw [HP.out]
      exact ⟨v, rfl, HS, fun g hg => .inl hg, Chg.of_below hb1⟩
  · have hz : zeroB (restL L r).1 = false := by rw [hzl]; simpa using hneg
    rw [hz]
    obtain ⟨i, hi⟩ : ∃ i : Nat, leadI (restL L r).1 = (i : Int) := ⟨_, (Int.toNat_of_nonneg (by omega)).symm⟩
    have hP : putL L r = (growL (normR (restL L r)) L, 0) := by unfold putL; rw [if_pos (by omega)]
    have HCm := Lib.hid (comes_of HG.out HRd.out H1.out H2.out hi)
    have Hng := Lib.hid hneg
    have HRm := Lib.hid (room_of HG.out H1.out H2.out hi)
    have HP := Lib.hid hP
    clear hP hzl hneg hz hi q3 q4
    go_wp2_with fail
    refine (norm_room r6 (by have := Hng.out; omega)).mono ?_
    rintro e w3 ⟨A7, n7, c7, A8, n8, c8, rfl, hc7, r3, kb3⟩
    replace HS := HS.step kb3
    have hb3 := bstep hb1 kb3
    clear r6 f0 f1 b6 kb3 hb1
    go_wp2_with fail
    refine (egrow_any HS r3 hc7 HCm.out HRm.out).mono ?_
    rintro e w5 ⟨v5, ⟨u, rfl⟩, hS5, hI5, hC5⟩
    have hz3 := hb3.size
    have hC := (Chg.of_below hb3).trans hC5
    clear r3 HS hb3 hC5
    go_wp2_with fail
    go_ret2
    rw [HP.out]
    exact ⟨v5, rfl, hS5, fun g hg => (hI5 g hg).imp id (fun hh => by omega), hC⟩
end Go.Proofs.Ytaidbcppecoenaa

