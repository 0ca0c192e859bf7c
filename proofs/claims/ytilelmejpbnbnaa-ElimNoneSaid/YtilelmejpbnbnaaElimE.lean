import Derived.Test.YtilelmejpbnbnaaElimD
import Derived.Deep.RegionWith
/- Package elim: Rest. -/
namespace Go.Proofs.Ytilelmejpbnbnaa
open Go.RowKit
set_option linter.unusedVariables false
set_option maxRecDepth 100000

/-- What Rest tells. -/
def RestEnds (x : RowL) (z : Int) (w : World) (e : Ending) (w' : World) : Prop := ∃ v, e = .returned (.tuple #[v, .int .i64 z]) ∧ RowIs w' x v ∧ Below w.heap.size w w'
set_option maxHeartbeats 600000 in
theorem erest_any {w : World} {p k t : Nat} {L : List RowL} {v : Value} {r : RowL} {y : Value} (h : Sys w p k t L v) (hr : RowIs w r y) (e1 : r.1.length = k) (e2 : r.2.length = t) :
    Calls Try.prog 30 #[.pointer (some ⟨p, 0, none⟩), y] w (RestEnds (restL L r) 0 w) := by
  obtain ⟨A1, n1, c1, A2, n2, c2, rfl, p1, p2, l1, l2⟩ := hr
  obtain ⟨hb0, bx, hg⟩ := two_alloc (w := w) (T := 58) (T2 := 58) (cs := #[.slice A1 n1 c1, .slice A2 n2 c2]) (cs2 := #[.slice none 0 0, .slice none 0 0])
  have rr : RowIs _ r _ := (RowIs.mk (c := c1) (c2 := c2) p1 p2 l1 l2).step hb0
  have HS := h.step hb0
  have hkn : k = n1 := e1.symm.trans p1.1
  have htn : t = n2 := e2.symm.trans p2.1
  subst hkn
  subst htn
  have Hlen := h.len
  have Hk := h.2.2.2.2.2.1
  obtain ⟨A, c, rfl, hcc⟩ : ∃ A c, v = .slice A L.length c ∧ L.length ≤ c := by
    obtain ⟨_, ⟨xs, h2, _⟩, _⟩ := h
    obtain ⟨A, c, e, h3, _⟩ := h2.val
    exact ⟨A, c, e, h3⟩
  have Hsuit := Lib.hid h.2.2.1.1
  have HI := Lib.hid h.lt
  have H1 := Lib.hid e1
  have H2 := Lib.hid e2
  clear h p1 p2 e1 e2
  obtain ⟨d0, d1, _, _⟩ := cells2 bx
  obtain ⟨s0, s1, s2, _, _, _⟩ := cells3 HS.1
  go_enter Try.func30, Try.ntmps30
  go_wp2_with fail
  generalize (w.alloc (.cells #[.slice A1 k c1, .slice A2 t c2] 58)).alloc (.cells #[.slice none 0 0, .slice none 0 0] 58) = V at *
  go_quiet (fail)
  have kq : Below V.heap.size V (V.drewN nq) := below_drewN (Below.refl _ _) nq
  replace rr := rr.step kq
  replace HS := HS.step kq
  replace bx := bx.below kq bx.lt
  replace hg := hg.below kq hg.lt
  replace hb0 := bstep hb0 kq
  clear d0 d1 s0 s1 s2 kq
  generalize V.drewN nq = V2 at *
  have hgl := hg.lt
  obtain ⟨d0, d1, _, _⟩ := cells2 bx
  go_wp2_with fail
  obtain ⟨q1, q2, _, _⟩ := rr.parts
  refine (rclone_any (us := r.1) (vs := r.2) q1 q2 l1 l2).mono ?_
  rintro e w1 ⟨x1, rfl, ⟨A3, n3, c3, A4, n4, c4, rfl, r1, r2, l3, l4⟩, b1⟩
  have b6 := Blk.new w1 58 #[.slice A3 n3 c3, .slice A4 n4 c4]
  have k6 := balloc w1 (.cells #[.slice A3 n3 c3, .slice A4 n4 c4] 58)
  have H6 : Holds (w1.alloc (.cells #[.slice A3 n3 c3, .slice A4 n4 c4] 58)) w1.heap.size 58 r := Holds.new (RowIs.mk (r := r) r1 r2 l3 l4)
  have hz1 := b1.size
  have bb := bstep b1 k6
  replace HS := HS.step bb
  replace hg := hg.below bb hg.lt
  replace hb0 := bstep hb0 bb
  have hzz : w.heap.size + 1 < w1.heap.size := by omega
  clear d0 d1 b1 k6 bb r1 r2 rr bx q1 q2 b6 hgl hz1
  obtain ⟨s0, s1, s2, _, _, _⟩ := cells3 HS.1
  go_wp2_with fail
  generalize hW : w1.alloc (.cells #[.slice A3 n3 c3, .slice A4 n4 c4] 58) = W at *
  generalize w1.heap.size = x6 at *
  clear hW s0 s1 s2
  go_loopw [40] (fun i wr => ∃ j : Nat, j ≤ L.length ∧ i = .int .i64 (j : Int) ∧ Holds wr x6 58 (restL (L.take j) r) ∧ Blk wr (w.heap.size + 1) 58 #[.slice none 0 0, .slice none 0 0] ∧ Sys wr p k t L (.slice A L.length c) ∧ Below w.heap.size w wr) (fun i _ => L.length - (intOf i).toNat)
  case atStart => exact ⟨0, by omega, rfl, H6, hg, HS, hb0⟩
  case round =>
    clear H6 hg HS hb0
    obtain ⟨j, hj, rfl, hH, hg, hS, hb⟩ := hrel
    by_cases hlt : j < L.length
    · obtain ⟨R, cap, A5, n5, c5, A6, n6, c6, e, hR, k0, k1, k2, r5⟩ := hS.at_ hlt
      injection e with e3 e4 e5
      subst e3 e5
      have HX := Lib.hid (rest_snoc L r j hlt)
      have hz := suit_at Hsuit.out hlt
      have hw := rest_len (suit_take Hsuit.out j) r H1.out H2.out
      have E1 := Lib.hid (hz.1.trans hw.1.symm)
      have E2 := Lib.hid (hz.2.1.trans hw.2.symm)
      clear hz hw
      generalize L[j]?.getD ([], []) = o at *
      generalize restL (L.take j) r = x at *
      obtain ⟨A7, n7, c7, A8, n8, c8, b6, r6⟩ := hH
      have kb := balloc wr (.cells #[.slice A5 n5 c5, .slice A6 n6 c6, .int .i64 (leadI o.1)] 102)
      have b8 := Blk.new wr 102 #[.slice A5 n5 c5, .slice A6 n6 c6, .int .i64 (leadI o.1)]
      have b6' := b6.below kb b6.lt
      obtain ⟨f0, f1, f2, _, _, _⟩ := cells3 b8
      obtain ⟨g0, g1, _, _⟩ := cells2 b6'
      go_wp2_with fail
      have C := efrom_any (r5.step kb) (r6.step kb) E1.out E2.out
      refine C.mono ?_
      rintro e w3 ⟨v3, rfl, ⟨A9, n9, c9, A10, n10, c10, rfl, q9, q10, l9, l10⟩, b9⟩
      have kk := bstep kb b9
      replace b6 := b6.below kk b6.lt
      replace hg := hg.below kk hg.lt
      replace hS := hS.step kk
      replace hb := bstep hb kk
      have r9 : RowIs w3 (lessAt x o (leadI o.1)) (.agg #[.slice A9 n9 c9, .slice A10 n10 c10]) := RowIs.mk q9 q10 l9 l10
      clear C kb b8 b6' f0 f1 f2 g0 g1 kk b9 k0 k1 k2 r5 r6 q9 q10
      obtain ⟨g0, g1, g2, g3⟩ := cells2 b6
      go_wp2_with fail
      have hH2 := Holds.turn b6 NoBytes.two r9
      rw [← HX.out] at hH2
      have hS2 := hS.turn (x := .slice A9 n9 c9) (y := .slice A10 n10 c10) b6 NoBytes.two (fun e => by have := HI.out _ e; omega)
      have hg2 := (hg.far (p := (⟨x6, 0, none⟩ : Addr)) (show w.heap.size + 1 ≠ x6 by omega) (.slice A9 n9 c9)).far (p := (⟨x6, 1, none⟩ : Addr)) (show w.heap.size + 1 ≠ x6 by omega) (.slice A10 n10 c10)
      have hb2 := (hb.setCell (p := ⟨x6, 0, none⟩) (show w.heap.size ≤ x6 by omega) (.slice A9 n9 c9)).setCell (p := ⟨x6, 1, none⟩) (show w.heap.size ≤ x6 by omega) (.slice A10 n10 c10)
      go_roundw
      case rel => exact ⟨j + 1, by omega, by go_num, hH2, hg2, hS2, hb2⟩
      case measure => simp [intOf]; omega
    · obtain rfl : j = L.length := by omega
      rw [List.take_length] at hH
      obtain ⟨A7, n7, c7, A8, n8, c8, b6, r6⟩ := hH
      obtain ⟨g0, g1, _, _⟩ := cells2 b6
      obtain ⟨f0, f1, f2, f3⟩ := cells2 hg
      go_wp2_with fail
      obtain ⟨r11, r12, l11, l12⟩ := r6.parts
      refine end_row (v := .tuple #[.agg #[.slice A7 n7 c7, .slice A8 n8 c8], .int .i64 0]) hg (by intro W e0 e1; simp [results, Try.results30, go_sem, e0, e1]) rfl fun W hl => ?_
      exact ⟨_, rfl, RowIs.mk (hl.row r11 hg NoBytes.two) (hl.row r12 hg NoBytes.two) l11 l12, hl.below _ _ (by omega) hb⟩
end Go.Proofs.Ytilelmejpbnbnaa
