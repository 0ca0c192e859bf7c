import Derived.Test.YtaidbcppecoenaaElimC
import Derived.Test.YtaidbcppecoenaaElimI
import Derived.Test.YtaidbcppecoenaaElimG
/- Copies that have their room; package elim: Clone. -/
namespace Go.Proofs.Ytaidbcppecoenaa
open Go.RowKit
set_option linter.unusedVariables false
set_option maxRecDepth 100000

theorem own_room {w : World} {base : Nat} {e : TypeId} {A : Option Addr} {c n : Nat} {us : List UInt8} (h : w.ownsRow base e 1 (.slice A n c) n (bvs us)) : n ≤ c := by
  rcases h.2 with ⟨e, rfl⟩ | ⟨g, cap, cur, e, hb, hh, hn, hm, hs, ht⟩
  · omega
  · injection e with e1 e2 e3
    omega
theorem clone_room {B : Nat} {A : Option Addr} {n c : Nat} {us : List UInt8} {w : World} (h : Rd w B A n us) (hB : B ≤ w.heap.size) (hn : n ≤ 140737488355327) :
    Calls Try.prog 70 #[.slice A n c] w fun e w' => ∃ A' c', n ≤ c' ∧ e = .returned (.slice A' n c') ∧ Rd w' w'.heap.size A' n us ∧ Below w.heap.size w w' := by
  have hq := eql_nil w A n c
  cases A with
  | none =>
    have hm : n = 0 := by
      refine Nat.eq_zero_of_not_pos fun hp => ?_
      obtain ⟨b, off, e, _⟩ := h.2 hp
      cases e
    subst hm
    obtain rfl : us = [] := List.eq_nil_of_length_eq_zero h.1
    go_enter Try.func70, Try.ntmps70
    go_wp2_with fail
    go_ret
    exact ⟨none, 0, Nat.le_refl _, rfl, Rd.nil, Below.refl _ _⟩
  | some ad =>
    have hg0 : (w.alloc (.cells #[] 5)).ownsRow w.heap.size 5 1 (.slice (some ⟨w.heap.size, 0, none⟩) 0 0) 0 (bvs []) := own_empty (Blk.new w 5 #[]) (Nat.le_refl _)
    have hr := h.below ((Below.refl _ _).alloc hB (.cells #[] 5))
    go_enter Try.func70, Try.ntmps70
    go_wp2_with (at_builtin; refine push_bytes rfl (.tmp 5) (.tmp 6) rfl w.heap.size _ 0 [] rfl hg0 (some ad) n c us rfl hr (by omega) (by simp) ?_)
    intro v' w' ho hgr
    have hb : Below w.heap.size w w' := (balloc w _).trans (own_grown_below hg0 hgr (by simp))
    obtain ⟨A', c', rfl, hr'⟩ := Rd.of_own ho
    have hroom := own_room ho
    go_wp2_with fail
    go_ret
    exact ⟨A', c', by omega, rfl, by simpa using hr', hb⟩
theorem vof_room {A A2 : Option Addr} {n c n2 c2 : Nat} {us vs : List UInt8} {w : World} (h1 : Rd w w.heap.size A n us) (h2 : Rd w w.heap.size A2 n2 vs) (l1 : n ≤ 140737488355327) (l2 : n2 ≤ 140737488355327) :
    Calls Try.prog 48 #[.slice A n c, .slice A2 n2 c2] w (RoomEnds (us, vs) w) := by
  have hb0 := balloc w (.cells #[.slice none 0 0, .slice none 0 0] 58)
  have q1 := h1.step hb0
  have q2 := h2.step hb0
  have hg := Blk.new w 58 #[.slice none 0 0, .slice none 0 0]
  have hz : w.heap.size < (w.alloc (.cells #[.slice none 0 0, .slice none 0 0] 58)).heap.size := by simp
  clear h1 h2
  go_enter Try.func48, Try.ntmps48
  go_wp2_with fail
  refine (clone_room q1 (Nat.le_refl _) l1).mono ?_
  rintro e w1 ⟨A', c', hr1, rfl, r1, b1⟩
  replace q2 := q2.step b1
  replace hg := hg.below b1 hz
  replace hz := Nat.lt_of_lt_of_le hz b1.size
  replace hb0 := bstep hb0 b1
  clear b1 q1
  go_wp2_with fail
  refine (clone_room q2 (Nat.le_refl _) l2).mono ?_
  rintro e w2 ⟨A2', c2', hr2, rfl, r2, b2⟩
  replace r1 := r1.step b2
  replace hg := hg.below b2 hz
  replace hz := Nat.lt_of_lt_of_le hz b2.size
  replace hb0 := bstep hb0 b2
  clear b2 q2
  have hc0 := hg.cell 0
  have hc1 := hg.cell 1
  have hf0 := hg.frozen 0
  have hf1 := hg.frozen 1
  simp only [List.getElem?_toArray, List.getElem?_cons_zero, List.getElem?_cons_succ] at hc0 hc1
  go_wp2_with fail
  refine end_row (v := .agg #[.slice A' n c', .slice A2' n2 c2']) hg (by intro W e0 e1; simp [results, Try.results48, go_sem, e0, e1]) rfl fun W hl => ?_
  exact ⟨_, _, _, _, _, _, rfl, hr1, RowIs.mk (hl.row r1 hg NoBytes.two) (hl.row r2 hg NoBytes.two) l1 l2, hl.below _ _ (Nat.le_refl _) hb0⟩
theorem rclone_room {A A2 : Option Addr} {n c n2 c2 : Nat} {us vs : List UInt8} {w : World} (h1 : Rd w w.heap.size A n us) (h2 : Rd w w.heap.size A2 n2 vs) (l1 : n ≤ 140737488355327) (l2 : n2 ≤ 140737488355327) :
    Calls Try.prog 61 #[.agg #[.slice A n c, .slice A2 n2 c2]] w (RoomEnds (us, vs) w) := by
  obtain ⟨hb0, hx, hg⟩ := two_alloc (w := w) (T := 58) (T2 := 58) (cs := #[.slice A n c, .slice A2 n2 c2]) (cs2 := #[.slice none 0 0, .slice none 0 0])
  have q1 := h1.step hb0
  have q2 := h2.step hb0
  have hz : w.heap.size + 1 < ((w.alloc (.cells #[.slice A n c, .slice A2 n2 c2] 58)).alloc (.cells #[.slice none 0 0, .slice none 0 0] 58)).heap.size := by simp
  clear h1 h2
  go_enter Try.func61, Try.ntmps61
  go_wp2_with fail
  refine (vof_room q1 q2 l1 l2).mono ?_
  rintro e w1 ⟨A3, n3, c3, A4, n4, c4, rfl, hr3, rr3, b1⟩
  obtain ⟨r1, r2, l3, l4⟩ := rr3.parts
  replace hg := hg.below b1 hz
  replace hb0 := bstep hb0 b1
  clear b1 q1 q2 hx hz
  obtain ⟨hc0, hc1, hf0, hf1⟩ := cells2 hg
  go_wp2_with fail
  refine end_row (v := .agg #[.slice A3 n3 c3, .slice A4 n4 c4]) hg (by intro W e0 e1; simp [results, Try.results61, go_sem, e0, e1]) rfl fun W hl => ?_
  exact ⟨_, _, _, _, _, _, rfl, hr3, RowIs.mk (hl.row r1 hg NoBytes.two) (hl.row r2 hg NoBytes.two) l3 l4, hl.below _ _ (by omega) hb0⟩
/-- What Clone answers: a system of its own, with the same rows. -/
def CloneEnds (k t : Nat) (L : List RowL) (w : World) (e : Ending) (w' : World) : Prop :=
  ∃ g v', e = .returned (.pointer (some ⟨g, 0, none⟩)) ∧ Sys w' g k t L v' ∧ (∀ q, Its g v' q → w.heap.size ≤ q) ∧ Below w.heap.size w w'
set_option maxHeartbeats 2000000 in
theorem eclone_any {w : World} {p k t : Nat} {L : List RowL} {v : Value} (h : Sys w p k t L v) :
    Calls Try.prog 29 #[.pointer (some ⟨p, 0, none⟩)] w (CloneEnds k t L w) := by
  have hlk := h.len
  have hk := h.2.2.2.2.2.1
  have HG := Lib.hid h.2.2
  have HS := Lib.hid fun W (hW : Below w.heap.size w W) => h.step hW
  obtain ⟨hp, ⟨xs, hsr, hst⟩, _⟩ := h
  obtain ⟨A, c, rfl, hc1, hc2⟩ := hsr.val
  have HC := Lib.hid fun W (hW : Below w.heap.size w W) => (sclone_any (hsr.step hW) (by omega)).mono (R' := fun e w' => ∃ v', e = .returned v' ∧ SRow w' v' L.length xs ∧ (∀ q, some q = v'.ownBlock → w.heap.size ≤ q) ∧ Below W.heap.size W w') fun e w' ⟨v', e1, a, b, d⟩ => ⟨v', e1, a, fun q hq => Nat.le_trans hW.size (b q hq), d⟩
  have HB : Hid (∀ W, Below w.heap.size w W → Below w.heap.size w W ∧ W.cell? ⟨p, 0, none⟩ = some (.int .i64 (k : Int)) ∧ W.cell? ⟨p, 1, none⟩ = some (.int .i64 (t : Int)) ∧ W.cell? ⟨p, 2, none⟩ = some (.slice A L.length c)) := Lib.hid fun W hW => by
    obtain ⟨a0, a1, a2, _⟩ := cells3 (hp.below hW hp.lt)
    exact ⟨hW, a0, a1, a2⟩
  have HSt := Lib.hid fun W (hW : Below w.heap.size w W) => hst.step hW
  have HSp := Lib.hid fun W (hW : Below w.heap.size w W) => hp.below hW hp.lt
  obtain ⟨s0, s1, s2, _, _, _⟩ := cells3 hp
  go_enter Try.func29, Try.ntmps29
  clear hp hsr hst
  go_wp2_with fail
  go_cut [3] (fun s3 wx => ∃ g A2 c2, s3 = .pointer (some ⟨g, 0, none⟩) ∧ w.heap.size ≤ g ∧ Blk wx g 99 #[.int .i64 (k : Int), .int .i64 (t : Int), .slice A2 L.length c2] ∧ SRow wx (.slice A2 L.length c2) L.length xs ∧ (∀ q, some q = (Value.slice A2 L.length c2).ownBlock → w.heap.size ≤ q ∧ q ≠ g) ∧ Below w.heap.size w wx)
  case first =>
    go_region_held3 (fun w' => Below w.heap.size w w' ∧ w'.cell? ⟨p, 0, none⟩ = some (.int .i64 (k : Int)) ∧ w'.cell? ⟨p, 1, none⟩ = some (.int .i64 (t : Int)) ∧ w'.cell? ⟨p, 2, none⟩ = some (.slice A L.length c))
      ((refine HB.out _ ?_; first | exact (Below.refl _ _).drew | exact bstep (And.left ‹Below w.heap.size w _ ∧ _›) (by assumption) | exact bstep (And.left ‹Below w.heap.size w _ ∧ _›) (balloc _ _)))
      (first
        | (go_at_call 60; (with_reducible refine (HC.out _ (And.left ‹Below w.heap.size w _ ∧ _›)).mono ?_); rintro e w7 ⟨v7, rfl, hs7, ho7, b7⟩; obtain ⟨A7, c7, rfl, hc71, hc72⟩ := hs7.val))
    all_goals
      go_wp2_with fail
      go_meet
      have hB7 : Below w.heap.size w w7 := bstep (Below.refl w.heap.size w).drew b7
      have kb7 := balloc w7 (.cells #[.int .i64 (k : Int), .int .i64 (t : Int), .slice A7 L.length c7] 99)
      exact ⟨_, A7, c7, rfl, hB7.size, Blk.new _ _ _, hs7.step kb7, fun q hq => ⟨ho7 q hq, by have := hs7.lt hq; omega⟩, bstep hB7 kb7⟩
  case rest =>
    obtain ⟨g, A2, c2, rfl, hge, hg, hs2, ho2, hb2⟩ := hcut
    obtain ⟨_, a0, a1, a2⟩ := HB.out _ hb2
    clear s0 s1 s2
    go_wp2_with fail
    have hst2 := HSt.out _ hb2
    clear a0 a1 a2
    go_loopw [28] (fun i wr => ∃ (j : Nat) (xs' : List Value), j ≤ L.length ∧ i = .int .i64 (j : Int) ∧ SRow wr (.slice A2 L.length c2) L.length xs' ∧ StepsOf wr L xs' ∧ Blk wr g 99 #[.int .i64 (k : Int), .int .i64 (t : Int), .slice A2 L.length c2] ∧ Below w.heap.size w wr) (fun i _ => L.length - (intOf i).toNat)
    case atStart => exact ⟨0, xs, by omega, rfl, hs2, hst2, hg, hb2⟩
    case round =>
      clear hs2 hst2 hg hb2
      obtain ⟨j, xs', hj, rfl, hsr, hst, hbg, hb⟩ := hrel
      by_cases hjl : j < L.length
      · obtain ⟨R0, cap0, A5, n5, c5, A6, n6, c6, e, hR0, k0, k1, k2, r5⟩ := (HS.out _ hb).at_ hjl
        injection e with e1 _ e3
        subst e1 e3
        obtain ⟨R, cap, A3, n3, c3, A4, n4, c4, e, hR, hcap, hcap2, y0, y1, y2, _, _⟩ := raw_at hsr hst hjl
        injection e with e1 _ e3
        subst e1 e3
        have HSet := Lib.hid fun (W : World) (A7 : Option Addr) (n7 c7 : Nat) (A8 : Option Addr) (n8 c8 : Nat) (h : StepsOf W L xs') (hr : RowIs W (L[j]?.getD ([], [])) (.agg #[.slice A7 n7 c7, .slice A8 n8 c8])) (hc : n7 ≤ c7) =>
          (show StepsOf W L ((xs'.set (j * 3) (.slice A7 n7 c7)).set (j * 3 + 1) (.slice A8 n8 c8)) from by
            have h9 := h.set hjl hr hc rfl
            rwa [List.getElem?_eq_getElem hjl, Option.getD_some, List.set_getElem_self] at h9)
        generalize L[j]?.getD ([], []) = o at *
        have hRg : R ≠ g := (ho2 R rfl).2
        have hRw : w.heap.size ≤ R := (ho2 R rfl).1
        have hlen3 : xs'.length = L.length * 3 := hst.1
        have hjz : (j : Int) < (L.length : Int) := by omega
        have hRlt := hR.lt
        have kb := balloc wr (.cells #[.slice A5 n5 c5, .slice A6 n6 c6, .int .i64 (leadI o.1)] 102)
        have b6 := Blk.new wr 102 #[.slice A5 n5 c5, .slice A6 n6 c6, .int .i64 (leadI o.1)]
        have ro5 := r5.step kb
        have hR5 := hR.below kb hR.lt
        have hbg5 := hbg.below kb hbg.lt
        have hsr5 := hsr.step kb
        have hst5 := hst.step kb
        have hb5 := bstep hb kb
        have z0' := (kb.cell (p := ⟨R, j * 3, none⟩) hRlt).trans y0
        have z1' := (kb.cell (p := ⟨R, j * 3 + 1, none⟩) hRlt).trans y1
        clear r5 hR hbg hsr hst hb kb y0 y1 y2
        go_wp2_with fail
        generalize wr.alloc (.cells #[.slice A5 n5 c5, .slice A6 n6 c6, .int .i64 (leadI o.1)] 102) = W5 at *
        have hx6lt : wr.heap.size < W5.heap.size := b6.lt
        have hR6 : R ≠ wr.heap.size := by omega
        have HS3 : Hid (∀ w', Below W5.heap.size W5 w' → (w'.cell? ⟨g, 2, none⟩ = some (.slice (some ⟨R, 0, none⟩) L.length c2) ∧ w'.cell? ⟨wr.heap.size, 0, none⟩ = some (.slice A5 n5 c5) ∧ w'.cell? ⟨wr.heap.size, 1, none⟩ = some (.slice A6 n6 c6))) := Lib.hid fun w' hb' => by
          obtain ⟨_, _, y2, _, _, _⟩ := cells3 (hbg5.below hb' hbg5.lt)
          obtain ⟨y6, y7, _, _, _, _⟩ := cells3 (b6.below hb' b6.lt)
          exact ⟨y2, y6, y7⟩
        have HT : Hid (∀ (w' : World) (a b : Value), (w'.cell? ⟨g, 2, none⟩ = some (.slice (some ⟨R, 0, none⟩) L.length c2) ∧ w'.cell? ⟨wr.heap.size, 0, none⟩ = some (.slice A5 n5 c5) ∧ w'.cell? ⟨wr.heap.size, 1, none⟩ = some (.slice A6 n6 c6)) →
          (((w'.setCell ⟨R, j * 3, none⟩ a).setCell ⟨R, j * 3 + 1, none⟩ b).cell? ⟨g, 2, none⟩ = some (.slice (some ⟨R, 0, none⟩) L.length c2) ∧ ((w'.setCell ⟨R, j * 3, none⟩ a).setCell ⟨R, j * 3 + 1, none⟩ b).cell? ⟨wr.heap.size, 0, none⟩ = some (.slice A5 n5 c5) ∧ ((w'.setCell ⟨R, j * 3, none⟩ a).setCell ⟨R, j * 3 + 1, none⟩ b).cell? ⟨wr.heap.size, 1, none⟩ = some (.slice A6 n6 c6))) := Lib.hid fun w' a b ⟨y2, y6, y7⟩ => by
          have far : ∀ q : Addr, q.block ≠ R → ((w'.setCell ⟨R, j * 3, none⟩ a).setCell ⟨R, j * 3 + 1, none⟩ b).cell? q = w'.cell? q := fun q hq => by
            rw [World.cell?_setCell_far _ _ _ _ (fun e => hq e.symm), World.cell?_setCell_far _ _ _ _ (fun e => hq e.symm)]
          exact ⟨(far _ (fun e => hRg e.symm)).trans y2, (far _ (fun e => hR6 e.symm)).trans y6, (far _ (fun e => hR6 e.symm)).trans y7⟩
        have HC5 : Hid (∀ W, Below W5.heap.size W5 W → Calls Try.prog 61 #[.agg #[.slice A5 n5 c5, .slice A6 n6 c6]] W (RoomEnds (o.1, o.2) W)) := Lib.hid fun W hW => by
          obtain ⟨z1, z2, z3, z4⟩ := (ro5.step hW).parts
          exact rclone_room z1 z2 z3 z4
        have HR5 : Hid (∀ W, Below W5.heap.size W5 W → W.cell? ⟨R, j * 3, none⟩ = some (.slice A3 n3 c3) ∧ W.cell? ⟨R, j * 3 + 1, none⟩ = some (.slice A4 n4 c4) ∧ W.frozen? ⟨R, j * 3, none⟩ = false ∧ W.frozen? ⟨R, j * 3 + 1, none⟩ = false) := Lib.hid fun W hW => by
          have h9 := hR5.below hW hR5.lt
          exact ⟨(hW.cell (p := ⟨R, j * 3, none⟩) hR5.lt).trans z0', (hW.cell (p := ⟨R, j * 3 + 1, none⟩) hR5.lt).trans z1', h9.frozen _, h9.frozen _⟩
        clear k0 k1 k2 z0' z1'
        go_region_held3 (fun w' => w'.cell? ⟨g, 2, none⟩ = some (.slice (some ⟨R, 0, none⟩) L.length c2) ∧ w'.cell? ⟨wr.heap.size, 0, none⟩ = some (.slice A5 n5 c5) ∧ w'.cell? ⟨wr.heap.size, 1, none⟩ = some (.slice A6 n6 c6))
          (first | (refine HS3.out _ ?_; first | exact (Below.refl _ _).drew | assumption) | (refine HT.out _ _ _ ?_; assumption))
          (first
            | (go_at_call 61; (with_reducible refine (HC5.out _ ((Below.refl _ _).drew)).mono ?_); rintro e w7 ⟨A7, n7, c7, A8, n8, c8, rfl, hc7, hr7, b7⟩; have m7 := bstep (Below.refl W5.heap.size W5).drew b7; obtain ⟨z0, z1, z2, z3⟩ := HR5.out _ m7))
        have hr7' : RowIs w7 o (.agg #[.slice A7 n7 c7, .slice A8 n8 c8]) := hr7
        have hR7 := hR5.below m7 hR5.lt
        have hbg7 := hbg5.below m7 hbg5.lt
        have hst7 := hst5.step m7
        have hsr7 := hsr5.step m7
        have hB9 := blk_set2 (a := .slice A7 n7 c7) (b := .slice A8 n8 c8) hR7 (show j * 3 + 1 < xs'.length by omega)
        have hbl := raw_byteless hbg7 hsr7 hst7
        have hk9 : Chg (Its g (.slice (some ⟨R, 0, none⟩) L.length c2)) w7 ((w7.setCell ⟨R, j * 3, none⟩ (.slice A7 n7 c7)).setCell ⟨R, j * 3 + 1, none⟩ (.slice A8 n8 c8)) :=
          ((Chg.refl _ w7).setCell (p := ⟨R, j * 3, none⟩) (.inr rfl) _).setCell (p := ⟨R, j * 3 + 1, none⟩) (.inr rfl) _
        have hst9 := (HSet.out _ _ _ _ _ _ _ hst7 hr7' hc7).chg hk9 hbl
        have hbg9 := (hbg7.far (p := (⟨R, j * 3, none⟩ : Addr)) (fun e => hRg e.symm) (.slice A7 n7 c7)).far (p := (⟨R, j * 3 + 1, none⟩ : Addr)) (fun e => hRg e.symm) (.slice A8 n8 c8)
        have hsr9 : SRow ((w7.setCell ⟨R, j * 3, none⟩ (.slice A7 n7 c7)).setCell ⟨R, j * 3 + 1, none⟩ (.slice A8 n8 c8)) (.slice (some ⟨R, 0, none⟩) L.length c2) L.length ((xs'.set (j * 3) (.slice A7 n7 c7)).set (j * 3 + 1) (.slice A8 n8 c8)) :=
          ⟨by simp [hlen3], hst9.one, .inr ⟨R, c2, rfl, hcap, hcap2, hB9⟩⟩
        have hb9 := ((bstep hb5 m7).setCell (p := (⟨R, j * 3, none⟩ : Addr)) hRw (.slice A7 n7 c7)).setCell (p := (⟨R, j * 3 + 1, none⟩ : Addr)) hRw (.slice A8 n8 c8)
        clear hk9 hbl hB9 hsr7 hst7 hbg7 hR7 hr7 hr7' z0 z1 z2 z3 m7 b7 HC5 HR5 HT HS3 hst5 hsr5 hbg5 hR5 ro5 b6 hb5
        go_wp2_with fail
        go_roundw
        case rel => exact ⟨j + 1, _, by omega, by go_num, hsr9, hst9, hbg9, hb9⟩
        case measure => simp [intOf]; omega
      · obtain rfl : j = L.length := by omega
        go_wp2_with fail
        go_ret
        have hG := HG.out
        refine ⟨g, _, rfl, ⟨hbg, ⟨xs', hsr, hst⟩, hG.1, hG.2.1, hG.2.2.1, hG.2.2.2.1, hG.2.2.2.2.1, fun e => (ho2 g e).2 rfl⟩, ?_, hb⟩
        rintro q (rfl | hq)
        · exact hge
        · exact (ho2 q hq).1
end Go.Proofs.Ytaidbcppecoenaa

