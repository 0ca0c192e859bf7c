import Derived.Test.YtejnkohgecclbaaDoorL04H
import Derived.Deep.RegionLaw
/- SumTells: the walk. -/
namespace Go.Proofs.YtejnkohgecclbaaDoor
open Go.ChangeShapes Go.WideShapes Go.ChangeAt Go.RowKit
set_option linter.unusedVariables false
set_option maxRecDepth 100000

/-- What stands while a round goes on: all parts so far, in a row of the call's own; the running sum, and what it was. -/
structure St (w : World) (base g8 g11 : Nat) (R : Nat) (X : World) (v : Value) (L : List UInt8) : Prop where
  own : X.ownsRow base 5 1 v L.length (bvs L)
  b8 : Blk X g8 28 #[.int .u32 (rv R)]
  b11 : Blk X g11 28 #[.int .u32 (rv R)]
  bel : Below w.heap.size w X
  size : base ≤ X.heap.size
section
variable {w X X' : World} {base g8 g11 R : Nat} {v : Value} {L : List UInt8}
theorem St.below (h : St w base g8 g11 R X v L) (hb : Below X.heap.size X X') : St w base g8 g11 R X' v L :=
  ⟨own_below h.own hb, h.b8.below hb h.b8.lt, h.b11.below hb h.b11.lt, bstep h.bel hb, Nat.le_trans h.size hb.size⟩
theorem St.alloc (h : St w base g8 g11 R X v L) (o : Obj) : St w base g8 g11 R (X.alloc o) v L := h.below (balloc _ _)
theorem St.drew (h : St w base g8 g11 R X v L) : St w base g8 g11 R X.drew v L := h.below (Below.refl _ _).drew
theorem St.push {v' : Value} {vs : List UInt8} {m : Nat} (h : St w base g8 g11 R X v L) (hm : vs.length = m) (ho : X'.ownsRow base 5 1 v' (L.length + m) (bvs (L ++ vs))) (hg : X.grownBy X' v.ownBlock) (hne8 : some g8 ≠ v.ownBlock) (hne11 : some g11 ≠ v.ownBlock) (hw : w.heap.size ≤ base) : St w base g8 g11 R X' v' (L ++ vs) :=
  ⟨by rw [List.length_append, hm]; exact ho, h.b8.grown hg hne8, h.b11.grown hg hne11, h.bel.trans ⟨hg.os, hg.tape, hg.output, hg.size, fun k hk => hg.block k (Nat.lt_of_lt_of_le hk h.bel.size) (fun e => by
    have := (h.own.lt k e.symm).1
    omega)⟩, Nat.le_trans h.size hg.size⟩
end
theorem own8 {w X : World} {base g8 g11 R : Nat} {v : Value} {L : List UInt8} (h : St w base g8 g11 R X v L) (hlt : g8 < base) : some g8 ≠ v.ownBlock := by
  intro e
  have := (h.own.lt g8 e.symm).1
  omega
set_option maxHeartbeats 8000000 in
theorem tells4_main (A : Option Addr) (N c : Nat) (rows : List (List UInt8)) (n : Nat) (A3 : Option Addr) (n3 c3 : Nat) (us3 : List UInt8) (w : World) (HT : HalvesAt w) (r : Rds w w.heap.size A N rows) (hf : few4B rows = true) (hn : n < 4294967296) (r3 : Rd w w.heap.size A3 n3 us3) (l3 : n3 ≤ 100) :
    Calls Tryd.prog 3 #[.slice A N c, .int .u32 (rv n), .slice A3 n3 c3] w fun e w' => e = .returned (.bool true) ∧ Below w.heap.size w w' := by
  have hN : N ≤ 30 := by
    unfold few4B at hf
    rw [Bool.and_eq_true] at hf
    have := r.1
    simp at hf
    omega
  have hsh : ∀ k : Nat, (rows[k]?.getD []).length ≤ 1000 := by
    intro k
    unfold few4B at hf
    rw [Bool.and_eq_true] at hf
    by_cases hk : k < rows.length
    · have := List.all_eq_true.1 hf.1 rows[k] (List.getElem_mem _)
      simpa [hk] using this
    · simp [hk]
  have C := awake4 w HT
  have HT' := Lib.hid HT
  have HF := Lib.hid hf
  have HN := Lib.hid hn
  have Hsh := Lib.hid hsh
  have HL := Lib.hid r.1
  clear HT hf hn hsh
  go_enter Tryd.func3, Tryd.ntmps3
  go_wp2_with fail
  refine C.mono ?_
  rintro e w1 ⟨rfl, hb⟩
  clear C
  have F4 := few4_any (c := c) (r.step hb) (by omega)
  rw [HF.out] at F4
  go_wp2_with fail
  refine F4.mono ?_
  rintro e w' ⟨rfl, rfl⟩
  clear F4
  go_wp2_with fail
  refine (start_any _).mono ?_
  rintro e w2 ⟨rfl, b2⟩
  have hb2 := bstep hb b2
  have hbv := bstep hb2 (balloc w2 (.cells #[.int .u32 (rv 4294967295)] 28))
  have b8 := Blk.new w2 28 #[.int .u32 (rv 4294967295)]
  have hg8 := hb2.size
  have hbase := b8.lt
  go_wp2_with fail
  generalize w2.alloc (.cells #[.int .u32 (rv 4294967295)] 28) = V at *
  generalize w2.heap.size = g8 at *
  generalize hVs : V.heap.size = base at *
  have hVs' : Hid (base ≤ V.heap.size) := Lib.hid (by omega)
  clear hb b2 hb2 hVs
  go_loopw [7, 29] (fun v i wr => ∃ (k : Nat) (vv : Value), k ≤ N ∧ i = .int .i64 k ∧ vv = v ∧ St w base g8 g8 (feed 4294967295 (rows.take k).flatten) wr vv (rows.take k).flatten ∧ Hid ((rows.take k).flatten.length ≤ 1000 * k)) (fun _ i _ => N - (intOf i).toNat)
  case atStart => exact ⟨0, _, by omega, rfl, rfl, ⟨World.ownsRow_nil _ _ _ _, b8, b8, hbv, hVs'.out⟩, Lib.hid (by simp)⟩
  case round =>
    clear b8 hbv
    obtain ⟨k, vv, hk, rfl, rfl, hst, hlen⟩ := hrel
    have hfr := flat_take rows k
    by_cases hlt : k < N
    · have Hfl := Lib.hid (hfr (by rw [HL.out]; exact hlt))
      have hplen := Hsh.out k
      obtain ⟨b, off, Ak, ck, rfl, hbl, hc, hrk⟩ := (r.below hst.bel).at_ hlt
      have HP := Lib.hid (r.at_row hlt hst.bel hc)
      have hR : Hid (feed 4294967295 (rows.take k).flatten < 4294967296) := Lib.hid (feed_lt _ (by decide))
      have Hfa := Lib.hid (feed_append 4294967295 (rows.take k).flatten (rows[k]?.getD []))
      obtain ⟨z0, z1⟩ := cell1 hst.b8
      clear hfr
      generalize rows[k]?.getD [] = part at *
      generalize (rows.take k).flatten = L at *
      generalize feed 4294967295 L = R at *
      go_upto_region 11 with fail
      have sY : St w base g8 wr.heap.size R (wr.alloc (.cells #[.int .u32 (rv R)] 28)) vv L :=
        ⟨own_below hst.own (balloc _ _), hst.b8.below (balloc _ _) hst.b8.lt, Blk.new _ _ _, bstep hst.bel (balloc _ _), Nat.le_trans hst.size (balloc wr (.cells #[.int .u32 (rv R)] 28)).size⟩
      have h11 : some wr.heap.size ≠ vv.ownBlock := own_ne hst.own (Nat.le_refl _)
      have h8 : some g8 ≠ vv.ownBlock := own8 hst hbase
      have hg11 : g8 ≠ wr.heap.size := Nat.ne_of_lt hst.b8.lt
      have Hlen := hlen
      clear hst z0 z1 hc hrk hlen
      generalize wr.alloc (.cells #[.int .u32 (rv R)] 28) = Y at *
      generalize wr.heap.size = g11 at *
      have hRd : ∀ X, Below w.heap.size w X → Rd X X.heap.size Ak part.length part := fun X hX => (HP.out.below hX).more hX.size
      have HRd := Lib.hid hRd
      have sYd := sY.drew
      have sYc := (sY.alloc (.cells #[.slice Ak part.length ck] 24)).drew
      have bYc : Blk (Y.alloc (.cells #[.slice Ak part.length ck] 24)).drew Y.heap.size 24 #[.slice Ak part.length ck] := (Blk.new Y _ _).drew
      obtain ⟨z0, z1⟩ := cell1 sY.b8
      have hY8 := sY.b8.lt
      have hYn : some Y.heap.size ≠ vv.ownBlock := own_ne sY.own (Nat.le_refl _)
      have hLb : L.length + part.length ≤ 140737488355328 := by have := Hlen.out; omega
      clear hRd
      go_cut [7, 29] from 29 to 56 (fun s7 s29 wx => s29 = .int .i64 k ∧ ∃ v', s7 = v' ∧ wx.ownsRow base 5 1 v' (L ++ part).length (bvs (L ++ part)) ∧ Blk wx g8 28 #[.int .u32 (rv (feed R part))] ∧ Blk wx g11 28 #[.int .u32 (rv R)] ∧ Below w.heap.size w wx ∧ base ≤ wx.heap.size)
      case first =>
        go_region_law (first
          | (rw [if_pos (by rfl)]; with_reducible refine wp_push (w := Y.drew) (.tmp 34) (.tmp 35) rfl base vv L.length L rfl sYd.own Ak part.length ck part rfl (HRd.out _ sYd.bel) hLb sYd.size ?_; intro v' w3 ho hg; have s3 := sYd.push rfl ho hg h8 h11 (by omega); obtain ⟨y0, y1⟩ := cell1 s3.b8; have hb3 := s3.b8.lt; have D2 := with_row hR.out (HT'.out.below (s3.alloc (.cells #[.slice Ak part.length ck] 24)).bel) (Blk.new w3 24 #[.slice Ak part.length ck]) (HRd.out _ (s3.alloc (.cells #[.slice Ak part.length ck] 24)).bel) (by omega))
          | (rw [if_pos (by rfl)]; with_reducible refine wp_push (w := (Y.alloc (.cells #[.slice Ak part.length ck] 24)).drew) (.tmp 34) (.tmp 35) rfl base vv L.length L rfl sYc.own Ak part.length ck part rfl (HRd.out _ sYc.bel) hLb sYc.size ?_; intro v' w3 ho hg; have s3 := sYc.push rfl ho hg h8 h11 (by omega); have bC3 := bYc.grown hg hYn; obtain ⟨y0, y1⟩ := cell1 s3.b8)
          | (rw [if_pos (by rfl)]; with_reducible refine wp_push (w := w5) (.tmp 34) (.tmp 35) rfl base vv L.length L rfl s5.own Ak part.length ck part rfl (HRd.out _ s5.bel) hLb s5.size ?_; intro v' w4 ho hg; have s4 := s5.push rfl ho hg h8 h11 (by omega); obtain ⟨x0, x1⟩ := cell1 s4.b8)
          | (go_simp; go_at_call 8; (with_reducible refine D2.mono ?_); rintro e w4 ⟨rfl, b4⟩; have s4 := (s3.alloc (.cells #[.slice Ak part.length ck] 24)).below b4; obtain ⟨x0, x1⟩ := cell1 s4.b8; dsimp only)
          | (go_simp; go_at_call 8; (with_reducible refine (with_row hR.out (HT'.out.below s3.bel) bC3 (HRd.out _ s3.bel) (by omega)).mono ?_); rintro e w4 ⟨rfl, b4⟩; have s4 := s3.below b4; obtain ⟨x0, x1⟩ := cell1 s4.b8; dsimp only)
          | (go_simp; go_at_call 8; (with_reducible refine (with_row hR.out (HT'.out.below sYc.bel) bYc (HRd.out _ sYc.bel) (by omega)).mono ?_); rintro e w5 ⟨rfl, b5⟩; have s5 := sYc.below b5; dsimp only))
        all_goals
          go_wp2_with fail
          go_meet
          exact ⟨rfl, _, rfl, ownsRow_setCell_below s4.own hbase _, s4.b8.one, s4.b11.far (fun e => hg11 e.symm) _, s4.bel.setCell hg8 _, by have := s4.size; simpa [World.setCell] using this⟩
      case rest =>
        obtain ⟨rfl, v', hv', ho, hb8, hb11, hbl, hsz⟩ := hcut
        subst hv'
        obtain ⟨Aa, ca, eo, ro⟩ := Rd.of_own ho
        clear z0 z1 sY sYd sYc bYc hY8 hYn h8 h11
        have hR2 : Hid (feed R part < 4294967296) := Lib.hid (feed_lt _ hR.out)
        have hHT := Lib.hid (HT'.out.below hbl)
        have hRd2 := HRd.out _ hbl
        have hcrc : Hid (crcN (L ++ part) = 4294967295 - feed R part) := Lib.hid (by unfold crcN; rw [Hfa.out])
        obtain ⟨z0, z1⟩ := cell1 hb8
        obtain ⟨y0, y1⟩ := cell1 hb11
        have hLb2 : (L ++ part).length ≤ 9223372036854775807 := by rw [List.length_append]; omega
        go_upto_region 12 with fail
        generalize wc = V at *
        have hb2 := balloc V (.cells #[.slice Ak part.length ck] 24)
        have D := with_row hR.out (hHT.out.below hb2.drew) ((Blk.new V 24 #[.slice Ak part.length ck]).drew) ((hRd2.below hb2.drew).more hb2.size) (by omega)
        have HS : Hid (∀ w', Below V.heap.size V w' → (Below V.heap.size V w' ∧ w'.cell? ⟨g8, 0, none⟩ = some (.int .u32 (rv (feed R part))) ∧ w'.cell? ⟨g11, 0, none⟩ = some (.int .u32 (rv R)))) := Lib.hid fun w' hb => ⟨hb, (cell1 (hb8.below hb hb8.lt)).1, (cell1 (hb11.below hb hb11.lt)).1⟩
        have RS := fun (X : World) (hX : Below V.heap.size V X) => refsum_any (c := ca) ((ro.below hX).more hX.size) hLb2
        rw [hcrc.out, List.length_append] at RS
        rw [List.length_append] at eo
        have CS := fun (X : World) => rsum_any (feed R part) hR2.out X
        generalize hq : 4294967295 - feed R part = q at CS RS
        have t0 : (rv q != rv q) = false := by simp
        clear hq
        subst eo
        go_region_held3 (fun w' => Below V.heap.size V w' ∧ w'.cell? ⟨g8, 0, none⟩ = some (.int .u32 (rv (feed R part))) ∧ w'.cell? ⟨g11, 0, none⟩ = some (.int .u32 (rv R)))
          ((refine HS.out _ ?_; first | exact (Below.refl _ _).drew | exact (And.left ‹Below V.heap.size V _ ∧ True›) | exact bstep (And.left ‹Below V.heap.size V _ ∧ _›) (balloc _ _)))
          (first
            | (go_at_call 8; (with_reducible refine D.mono ?_); rintro e w4 ⟨rfl, b4⟩; have kB := And.intro (bstep hb2.drew b4) trivial)
            | (go_at_call 9; (with_reducible refine (CS _).mono ?_); rintro e w4 ⟨rfl, b4⟩; have kB := And.intro (bstep (And.left ‹Below V.heap.size V _ ∧ _›) b4) trivial)
            | (go_at_call 10; (with_reducible refine (RS _ kB.1).mono ?_); rintro e w' ⟨rfl, rfl⟩))
        have kE := (And.left ‹Below V.heap.size V _ ∧ _›)
        clear D RS HS CS
        go_wp2_with fail
        go_roundw
        case rel => exact ⟨k + 1, _, by omega, by go_num, rfl, by rw [Hfl.out, Hfa.out]; exact ⟨own_below ho kE, hb8.below kE hb8.lt, hb8.below kE hb8.lt, bstep hbl kE, Nat.le_trans hsz kE.size⟩, Lib.hid (by rw [Hfl.out, List.length_append]; have := Hlen.out; omega)⟩
        case measure => simp [intOf]; omega
    · obtain rfl : k = N := by omega
      have eL : List.take k rows = rows := by rw [← HL.out]; exact List.take_length
      rw [eL] at hst hlen
      obtain ⟨Aa, ca, eo, ro⟩ := Rd.of_own hst.own
      have hbel := hst.bel
      have hm := hlen.out
      clear hst hfr hlen eL
      generalize rows.flatten.length = m at eo ro hm
      subst eo
      have HFit : Hid (Fit rows) := Lib.hid (fun x hx => by
        have h1 := HF.out
        unfold few4B at h1
        rw [Bool.and_eq_true] at h1
        have := List.all_eq_true.1 h1.1 x hx
        simp at this
        omega)
      have t1 : (rv n == rv n) = true := by simp
      have t2 : (rv (crcN rows.flatten) == rv (crcN rows.flatten)) = true := by simp
      have tp : (putL n == putL n) = true := by simp
      have hn3 : n3 ≤ 9223372036854775807 := by omega
      have e4 : (putL n).length = 4 := rfl
      have RF := fun (q : Nat) (X : World) (g : Nat) (h : Blk X g 5 (bvs (putL q)).toArray) => (show Rd X (g + 1) (some ⟨g, 0, none⟩) 4 (putL q) from Rd.of_blk h)
      have HRF := Lib.hid RF
      have Hro := Lib.hid ro
      clear ro RF
      go_wp2_with fail
      by_cases h4 : n3 = 4
      · subst h4
        have tl : (us3 == us3) = true := by simp
        have hp3 := put_getN r3.1
        refine (get_four (c := c3) (r3.below hbel)).mono ?_
        rintro e w' ⟨rfl, rfl⟩
        go_wp2_with fail
        refine (put_any n HN.out _).mono ?_
        rintro e w4 ⟨g4, rfl, B4, b4⟩
        have G := get_four (c := 4) (HRF.out _ _ _ B4)
        rw [getN_put HN.out] at G
        clear B4
        go_wp2_with fail
        refine G.mono ?_
        rintro e w' ⟨rfl, rfl⟩
        clear G
        go_wp2_with fail
        refine (refput_any (getN us3) (getN_lt us3) _).mono ?_
        rintro e w1 ⟨g1, rfl, B1, b1⟩
        have k1 := bstep b4 b1
        have S := same_any (c := 4) (c2 := c3) (HRF.out _ _ _ B1) (r3.below (bstep hbel k1)) B1.lt (bstep hbel k1).size (by omega)
        rw [hp3, tl] at S
        clear B1 hp3
        go_wp2_with fail
        refine S.mono ?_
        rintro e w2 ⟨rfl, b2⟩
        have k2 := bstep k1 b2
        clear S
        go_wp2_with fail
        refine (put_any n HN.out _).mono ?_
        rintro e w5 ⟨g5, rfl, B5, b5⟩
        have k5 := bstep k2 b5
        go_wp2_with fail
        refine (refput_any n HN.out _).mono ?_
        rintro e w6 ⟨g6, rfl, B6, b6⟩
        have k6 := bstep k5 b6
        have S := same_any (c := 4) (c2 := 4) (HRF.out _ _ _ (B5.below b6 B5.lt)) (HRF.out _ _ _ B6) (Nat.le_trans B5.lt b6.size) B6.lt (by omega)
        rw [tp] at S
        clear B5 B6
        go_wp2_with fail
        refine S.mono ?_
        rintro e w7 ⟨rfl, b7⟩
        have k7 := bstep k6 b7
        have hb7 := bstep hbel k7
        clear S
        go_wp2_with fail
        refine (sof_any (c := c) (HT'.out.below hb7) (r.step hb7) (by omega) HFit.out).mono ?_
        rintro e w8 ⟨rfl, b8⟩
        have k8 := bstep k7 b8
        have hb8 := bstep hbel k8
        have RS := refsum_any (c := ca) (Hro.out.step k8) (by omega)
        go_wp2_with fail
        refine RS.mono ?_
        rintro e w' ⟨rfl, rfl⟩
        go_wp2_with fail
        go_ret
        exact ⟨rfl, hb8⟩
      · have t0 : ((n3 : Int) != 4) = true := by simp; omega
        refine (get_size h4 hn3).mono ?_
        rintro e w' ⟨rfl, rfl⟩
        clear h4
        go_wp2_with fail
        refine (put_any n HN.out _).mono ?_
        rintro e w4 ⟨g4, rfl, B4, b4⟩
        have G := get_four (c := 4) (HRF.out _ _ _ B4)
        rw [getN_put HN.out] at G
        clear B4
        go_wp2_with fail
        refine G.mono ?_
        rintro e w' ⟨rfl, rfl⟩
        clear G
        go_wp2_with fail
        refine (put_any n HN.out _).mono ?_
        rintro e w5 ⟨g5, rfl, B5, b5⟩
        have k5 := bstep b4 b5
        go_wp2_with fail
        refine (refput_any n HN.out _).mono ?_
        rintro e w6 ⟨g6, rfl, B6, b6⟩
        have k6 := bstep k5 b6
        have S := same_any (c := 4) (c2 := 4) (HRF.out _ _ _ (B5.below b6 B5.lt)) (HRF.out _ _ _ B6) (Nat.le_trans B5.lt b6.size) B6.lt (by omega)
        rw [tp] at S
        clear B5 B6
        go_wp2_with fail
        refine S.mono ?_
        rintro e w7 ⟨rfl, b7⟩
        have k7 := bstep k6 b7
        have hb7 := bstep hbel k7
        clear S
        go_wp2_with fail
        refine (sof_any (c := c) (HT'.out.below hb7) (r.step hb7) (by omega) HFit.out).mono ?_
        rintro e w8 ⟨rfl, b8⟩
        have k8 := bstep k7 b8
        have hb8 := bstep hbel k8
        have RS := refsum_any (c := ca) (Hro.out.step k8) (by omega)
        go_wp2_with fail
        refine RS.mono ?_
        rintro e w' ⟨rfl, rfl⟩
        go_wp2_with fail
        go_ret
        exact ⟨rfl, hb8⟩
end Go.Proofs.YtejnkohgecclbaaDoor
