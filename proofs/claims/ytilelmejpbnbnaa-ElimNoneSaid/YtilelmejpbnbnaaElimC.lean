import Derived.Test.YtilelmejpbnbnaaInsT
/- Package elim: a row less as much of a step's; systems. -/
namespace Go.Proofs.Ytilelmejpbnbnaa
open Go.RowKit
set_option linter.unusedVariables false
set_option maxRecDepth 100000

theorem insert_any {w : World} {v : Value} {n i vb : Nat} {xs : List Value} {x y z : Value} (h : SRow w v n xs) (hi : i ≤ n) (hv : Blk w vb 102 #[x, y, z]) (hne : some vb ≠ v.ownBlock) (h2 : ∀ u ∈ [x, y, z], u.oneCell' = true) (hn : n ≤ 60000) :
    Calls Try.prog 85 #[v, .int .i64 i, .slice (some ⟨vb, 0, none⟩) 1 1] w (InsEnds v n i xs [x, y, z] w) := by
  obtain ⟨hx, h1, ⟨rfl, rfl⟩ | ⟨R, cap, rfl, hc, hcc, hR⟩⟩ := h
  · have : i = 0 := by omega
    subst this
    exact ins_full rfl (.inl ⟨rfl, rfl⟩) hx h1 hv h2 hn
  · by_cases hin : i = n
    · subst hin
      by_cases hcap : cap = i
      · subst hcap
        have hR' : Blk w R 102 xs.toArray := by
          have : xs ++ zer (cap - cap) = xs := by rw [Nat.sub_self]; exact List.append_nil _
          rw [← this]; exact hR
        exact ins_full rfl (.inr ⟨R, rfl, hR'⟩) hx h1 hv h2 hn
      · exact ins_room (by omega) hcc hx h1 hR hv h2 hn
    · by_cases hcap : cap = n
      · subst hcap
        have hR' : Blk w R 102 xs.toArray := by
          have : xs ++ zer (cap - cap) = xs := by rw [Nat.sub_self]; exact List.append_nil _
          rw [← this]; exact hR
        exact ins_grow (by omega) hx h1 hR' hv h2 hn
      · exact ins_shift (by omega) (by omega) hcc hx h1 hR hv (fun e => hne (by rw [e]; rfl)) h2 hn
theorem less_none0 {r o : RowL} {i : Int} (h1 : o.1.length = r.1.length) (h2 : o.2.length = r.2.length) (h : atB r.1 i = 0) : lessAt r o i = r := by
  unfold lessAt lessR
  rw [h, if_pos ⟨h1, h2⟩, addL_none, addL_none]
theorem efrom_any {w : World} {r o : RowL} {y : Value} {A1 A2 : Option Addr} {n1 c1 n2 c2 : Nat} (hx : RowIs w o (.agg #[.slice A1 n1 c1, .slice A2 n2 c2])) (hy : RowIs w r y) (e1 : o.1.length = r.1.length) (e2 : o.2.length = r.2.length) :
    Calls Try.prog 62 #[.agg #[.slice A1 n1 c1, .slice A2 n2 c2, .int .i64 (leadI o.1)], y] w (RowEnds (lessAt r o (leadI o.1)) w) := by
  obtain ⟨p1, p2, l1, l2⟩ := hx.parts
  obtain ⟨A3, n3, c3, A4, n4, c4, rfl, p3, p4, l3, l4⟩ := hy
  have hlb := lead_bounds o.1
  have hl1 := p1.1
  obtain ⟨hb0, bx, by_, hg, hz⟩ := three_alloc (w := w) (T := 102) (T2 := 58) (T3 := 58) (cs := #[.slice A1 n1 c1, .slice A2 n2 c2, .int .i64 (leadI o.1)]) (cs2 := #[.slice A3 n3 c3, .slice A4 n4 c4]) (cs3 := #[.slice none 0 0, .slice none 0 0])
  have ro : RowIs _ o _ := hx.step hb0
  have rr : RowIs _ r _ := (RowIs.mk (c := c3) (c2 := c4) p3 p4 l3 l4).step hb0
  have HZ := Lib.hid fun (h : atB r.1 (leadI o.1) = 0) => less_none0 e1 e2 h
  have HL : Hid (lessAt r o (leadI o.1) = (lessR r (atB r.1 (leadI o.1)) o).1) := Lib.hid rfl
  have hlo : -9223372036854775808 ≤ leadI o.1 ∧ leadI o.1 ≤ 9223372036854775807 := by omega
  clear p1 p2 p3 p4 hx e1 e2 hlb hl1
  generalize leadI o.1 = L at *
  obtain ⟨c0, c1', c2', _, _, _⟩ := cells3 bx
  obtain ⟨d0, d1, _, _⟩ := cells2 by_
  go_enter Try.func62, Try.ntmps62
  go_wp2_with fail
  generalize ((w.alloc (.cells #[.slice A1 n1 c1, .slice A2 n2 c2, .int .i64 L] 102)).alloc (.cells #[.slice A3 n3 c3, .slice A4 n4 c4] 58)).alloc (.cells #[.slice none 0 0, .slice none 0 0] 58) = V at *
  refine (c_at rr L hlo.1 hlo.2).mono ?_
  rintro e w' ⟨rfl, rfl⟩
  by_cases ha : atB r.1 L = 0
  · have hr := HZ.out ha
    rw [ha]
    obtain ⟨f0, f1, f2, f3⟩ := cells2 hg
    have hbv : bv 0 = 0 := rfl
    go_wp2_with fail
    obtain ⟨r11, r12, l11, l12⟩ := rr.parts
    refine end_row (v := .agg #[.slice A3 n3 c3, .slice A4 n4 c4]) hg (by intro W e0 e1; simp [results, Try.results62, go_sem, e0, e1]) rfl fun W hl => ?_
    rw [hr]
    exact RowEnds.mk (hl.row r11 hg NoBytes.two) (hl.row r12 hg NoBytes.two) l11 l12 (hl.below _ _ (by omega) hb0)
  · generalize atB r.1 L = a at *
    have hbv : (bv a == 0) = false := by
      rw [beq_eq_false_iff_ne]
      intro e
      exact ha (UInt8.toNat_inj.1 (by unfold bv at e; simpa using e))
    go_wp2_with fail
    refine (c_less a rr ro).mono ?_
    rintro e w7 ⟨v7, rfl, ⟨A7, n7, c7, A8, n8, c8, rfl, q7, q8, l7, l8⟩, b7⟩
    have r7 : RowIs w7 (lessR r a o).1 (.agg #[.slice A7 n7 c7, .slice A8 n8 c8]) := ⟨_, _, _, _, _, _, rfl, q7, q8, l7, l8⟩
    replace hg := hg.below b7 hg.lt
    replace hb0 := bstep hb0 b7
    clear c0 c1' c2' d0 d1 bx by_ q7 q8 b7
    have b8 := Blk.new w7 58 #[.slice A7 n7 c7, .slice A8 n8 c8]
    have k := balloc w7 (.cells #[.slice A7 n7 c7, .slice A8 n8 c8] 58)
    replace r7 := r7.step k
    replace hg := hg.below k hg.lt
    replace hb0 := bstep hb0 k
    clear k
    obtain ⟨f0, f1, f2, f3⟩ := cells2 hg
    obtain ⟨g0, g1, _, _⟩ := cells2 b8
    go_wp2_with fail
    obtain ⟨r11, r12, l11, l12⟩ := r7.parts
    refine end_row (v := .agg #[.slice A7 n7 c7, .slice A8 n8 c8]) hg (by intro W e0 e1; simp [results, Try.results62, go_sem, e0, e1]) rfl fun W hl => ?_
    rw [HL.out]
    exact RowEnds.mk (hl.row r11 hg NoBytes.two) (hl.row r12 hg NoBytes.two) l11 l12 (hl.below _ _ (by omega) hb0)
end Go.Proofs.Ytilelmejpbnbnaa
