import Derived.Test.YtaidbcppecoenaaElimF
import Derived.Test.YtaidbcppecoenaaElimC
import Derived.Test.YtaidbcppecoenaaSysM
/- Package elim: grow. -/
namespace Go.Proofs.Ytaidbcppecoenaa
open Go.RowKit
set_option linter.unusedVariables false
set_option maxRecDepth 100000

/-- The rows, of which the first j have lost what they had of a new one. -/
def midL (r : RowL) (L : List RowL) (j : Nat) : List RowL := (lessL r L).take j ++ L.drop j
theorem midL_len (r : RowL) (L : List RowL) (j : Nat) : (midL r L j).length = L.length := by
  unfold midL lessL
  simp only [List.length_append, List.length_take, List.length_drop, List.length_map]
  omega
theorem midL_at {r : RowL} {L : List RowL} {j : Nat} (h : j < L.length) : (midL r L j)[j]? = L[j]? := by
  unfold midL lessL
  rw [List.getElem?_append_right (by rw [List.length_take]; omega), List.getElem?_drop]
  congr 1
  rw [List.length_take, List.length_map]
  omega
theorem midL_next {r : RowL} {L : List RowL} {j : Nat} (h : j < L.length) : midL r L (j + 1) = (midL r L j).set j (lessAt (L[j]?.getD ([], [])) r (leadI r.1)) := by
  unfold midL
  have hl : (lessL r L).length = L.length := by simp [lessL]
  have ht : ((lessL r L).take j).length = j := by rw [List.length_take, hl]; omega
  rw [List.set_append_right _ _ (by omega), ht, Nat.sub_self, List.drop_eq_getElem_cons h, List.set_cons_zero, List.take_succ_eq_append_getElem (by omega), List.append_assoc, List.singleton_append]
  congr 2
  rw [List.getElem?_eq_getElem h]
  simp [lessL]
theorem midL_zero (r : RowL) (L : List RowL) : midL r L 0 = L := by simp [midL]
theorem midL_all (r : RowL) (L : List RowL) : midL r L L.length = lessL r L := by
  unfold midL
  rw [List.drop_length, List.append_nil, List.take_of_length_le (by simp [lessL])]
/-- The blocks of a system hold no bytes. -/
theorem raw_byteless {w : World} {p : Nat} {a b : Int} {L : List RowL} {xs : List Value} {v : Value} (h1 : Blk w p 99 #[.int .i64 a, .int .i64 b, v]) (h2 : SRow w v L.length xs) (h3 : StepsOf w L xs) : Byteless w (Its p v) := by
  obtain ⟨A, c, hv, _⟩ := h2.val
  intro g hg i u hu
  rcases hg with rfl | hg
  · rw [h1.cell] at hu
    subst hv
    match i, hu with
    | 0, hu => simp at hu
    | 1, hu => simp at hu
    | 2, hu => simp at hu
    | i + 3, hu => simp at hu
  · rcases h2.2.2 with ⟨rfl, _⟩ | ⟨R, cap, rfl, _, _, h5⟩
    · simp [Value.ownBlock] at hg
    · simp [Value.ownBlock] at hg
      subst hg
      rw [h5.cell, List.getElem?_toArray] at hu
      by_cases hi : i < xs.length
      · rw [List.getElem?_append_left hi] at hu
        rcases h3.at3 i _ hu with ⟨A, n, c, e⟩ | ⟨z, e⟩
        · cases e
        · injection e with e1 e2; cases e1
      · rw [List.getElem?_append_right (by omega)] at hu
        by_cases hz : i - xs.length < (cap - L.length) * 3
        · rw [zer_at hz] at hu
          split at hu
          · injection hu with hu; injection hu with e1 e2; cases e1
          · injection hu with hu; cases hu
        · rw [List.getElem?_eq_none (by rw [zer_len]; omega)] at hu
          cases hu
theorem raw_at {w : World} {j : Nat} {L : List RowL} {xs : List Value} {v : Value} (h2 : SRow w v L.length xs) (h3 : StepsOf w L xs) (hj : j < L.length) : ∃ R cap A1 n1 c1 A2 n2 c2, v = .slice (some ⟨R, 0, none⟩) L.length cap ∧ Blk w R 102 (xs ++ zer (cap - L.length)).toArray ∧ L.length ≤ cap ∧ cap ≤ 9223372036854775807 ∧
    w.cell? ⟨R, j * 3, none⟩ = some (.slice A1 n1 c1) ∧ w.cell? ⟨R, j * 3 + 1, none⟩ = some (.slice A2 n2 c2) ∧ w.cell? ⟨R, j * 3 + 2, none⟩ = some (.int .i64 (leadI (L[j]?.getD ([], [])).1)) ∧ RowIs w (L[j]?.getD ([], [])) (.agg #[.slice A1 n1 c1, .slice A2 n2 c2]) ∧ n1 ≤ c1 := by
  obtain ⟨A1, n1, c1, A2, n2, c2, e0, e1, e2, hr⟩ := h3.2 j L[j] (List.getElem?_eq_getElem hj)
  rcases h2.2.2 with ⟨_, h0⟩ | ⟨R, cap, rfl, h5, h6, h7⟩
  · omega
  · have hl := h3.1
    have hc : ∀ i, i < xs.length → w.cell? ⟨R, i, none⟩ = xs[i]? := fun i hi => by
      rw [h7.cell, List.getElem?_toArray, List.getElem?_append_left hi]
    rw [List.getElem?_eq_getElem hj]
    exact ⟨R, cap, A1, n1, c1, A2, n2, c2, rfl, h7, h5, h6, (hc _ (by omega)).trans e0, (hc _ (by omega)).trans e1, (hc _ (by omega)).trans e2, hr⟩
theorem StepsOf.set {w : World} {M : List RowL} {xs : List Value} {j : Nat} {q : RowL} {A1 A2 : Option Addr} {n1 c1 n2 c2 : Nat} (h : StepsOf w M xs) (hj : j < M.length) (hq : RowIs w q (.agg #[.slice A1 n1 c1, .slice A2 n2 c2])) (hroom : n1 ≤ c1) (hl : leadI q.1 = leadI (M[j]?.getD ([], [])).1) :
    StepsOf w (M.set j q) ((xs.set (j * 3) (.slice A1 n1 c1)).set (j * 3 + 1) (.slice A2 n2 c2)) := by
  have hx := h.1
  refine ⟨by simp [hx], fun i r hi => ?_⟩
  rw [List.getElem?_set] at hi
  split at hi
  · rename_i hji
    subst hji
    injection hi with hi
    subst hi
    obtain ⟨B1, m1, d1, B2, m2, d2, e0, e1, e2, _⟩ := h.2 j M[j] (List.getElem?_eq_getElem hj)
    rw [List.getElem?_eq_getElem hj] at hl
    refine ⟨A1, n1, c1, A2, n2, c2, ?_, ?_, ?_, hq, hroom⟩
    · rw [List.getElem?_set_ne (by omega), List.getElem?_set_self (by omega)]
    · rw [List.getElem?_set_self (by simp; omega)]
    · rw [List.getElem?_set_ne (by omega), List.getElem?_set_ne (by omega), e2, hl]
      rfl
  · rename_i hji
    obtain ⟨B1, m1, d1, B2, m2, d2, e0, e1, e2, hr⟩ := h.2 i r hi
    refine ⟨B1, m1, d1, B2, m2, d2, ?_, ?_, ?_, hr⟩
    · rw [List.getElem?_set_ne (by omega), List.getElem?_set_ne (by omega)]; exact e0
    · rw [List.getElem?_set_ne (by omega), List.getElem?_set_ne (by omega)]; exact e1
    · rw [List.getElem?_set_ne (by omega), List.getElem?_set_ne (by omega)]; exact e2
theorem blk_set2 {w : World} {R i : Nat} {T : TypeId} {xs zs : List Value} {a b : Value} (h : Blk w R T (xs ++ zs).toArray) (hi : i + 1 < xs.length) :
    Blk ((w.setCell ⟨R, i, none⟩ a).setCell ⟨R, i + 1, none⟩ b) R T ((xs.set i a).set (i + 1) b ++ zs).toArray := by
  have h1 := (h.set i a).set (i + 1) b
  rw [List.setIfInBounds_toArray, List.setIfInBounds_toArray, List.set_append_left _ _ (by omega), List.set_append_left _ _ (by rw [List.length_set]; omega)] at h1
  exact h1
theorem ins_at {α : Type} {xs news : List α} {a : Nat} (ha : a ≤ xs.length) (j : Nat) : (xs.take a ++ news ++ xs.drop a)[j]? = if j < a then xs[j]? else if j < a + news.length then news[j - a]? else xs[j - news.length]? := by
  have hl : (xs.take a).length = a := by rw [List.length_take]; omega
  split
  · rw [List.append_assoc, List.getElem?_append_left (by omega), List.getElem?_take, if_pos ‹_›]
  · split
    · rw [List.getElem?_append_left (by rw [List.length_append]; omega), List.getElem?_append_right (by omega), hl]
    · rw [List.getElem?_append_right (by rw [List.length_append]; omega), List.getElem?_drop, List.length_append, hl]
      congr 1
      omega
theorem StepsOf.ins {w : World} {L : List RowL} {xs : List Value} {r : RowL} {A1 A2 : Option Addr} {n1 c1 n2 c2 q : Nat} (h : StepsOf w L xs) (hr : RowIs w r (.agg #[.slice A1 n1 c1, .slice A2 n2 c2])) (hroom : n1 ≤ c1) (hq : q ≤ L.length) :
    StepsOf w (L.take q ++ [r] ++ L.drop q) (xs.take (q * 3) ++ [.slice A1 n1 c1, .slice A2 n2 c2, .int .i64 (leadI r.1)] ++ xs.drop (q * 3)) := by
  have hx := h.1
  refine ⟨by simp only [List.length_append, List.length_take, List.length_drop, List.length_cons, List.length_nil]; omega, fun i x hi => ?_⟩
  rw [ins_at hq] at hi
  simp only [List.length_cons, List.length_nil] at hi
  split at hi
  · obtain ⟨B1, m1, d1, B2, m2, d2, e0, e1, e2, hr'⟩ := h.2 i x hi
    refine ⟨B1, m1, d1, B2, m2, d2, ?_, ?_, ?_, hr'⟩
    · rw [ins_at (by omega), if_pos (by omega)]; exact e0
    · rw [ins_at (by omega), if_pos (by omega)]; exact e1
    · rw [ins_at (by omega), if_pos (by omega)]; exact e2
  · split at hi
    · obtain rfl : i = q := by omega
      rw [Nat.sub_self] at hi
      injection hi with hi
      subst hi
      refine ⟨A1, n1, c1, A2, n2, c2, ?_, ?_, ?_, hr, hroom⟩
      · rw [ins_at (by omega), if_neg (by omega), if_pos (by simp only [List.length_cons, List.length_nil]; omega), Nat.sub_self]; rfl
      · rw [ins_at (by omega), if_neg (by omega), if_pos (by simp only [List.length_cons, List.length_nil]; omega), Nat.add_sub_cancel_left]; rfl
      · rw [ins_at (by omega), if_neg (by omega), if_pos (by simp only [List.length_cons, List.length_nil]; omega), Nat.add_sub_cancel_left]; rfl
    · obtain ⟨B1, m1, d1, B2, m2, d2, e0, e1, e2, hr'⟩ := h.2 (i - (0 + 1)) x hi
      refine ⟨B1, m1, d1, B2, m2, d2, ?_, ?_, ?_, hr'⟩
      · rw [ins_at (by omega), if_neg (by omega), if_neg (by simp only [List.length_cons, List.length_nil]; omega), ← e0]
        congr 1; simp only [List.length_cons, List.length_nil]; omega
      · rw [ins_at (by omega), if_neg (by omega), if_neg (by simp only [List.length_cons, List.length_nil]; omega), ← e1]
        congr 1; simp only [List.length_cons, List.length_nil]; omega
      · rw [ins_at (by omega), if_neg (by omega), if_neg (by simp only [List.length_cons, List.length_nil]; omega), ← e2]
        congr 1; simp only [List.length_cons, List.length_nil]; omega
theorem head_byteless {w : World} {p n c : Nat} {a b : Int} {A : Option Addr} (h : Blk w p 99 #[.int .i64 a, .int .i64 b, .slice A n c]) : Byteless w (fun g => g = p) := by
  intro g hg i u hu
  subst hg
  rw [h.cell] at hu
  match i, hu with
  | 0, hu => simp at hu
  | 1, hu => simp at hu
  | 2, hu => simp at hu
  | i + 3, hu => simp at hu
/-- The system behind the store of its grown list. -/
theorem egrow_end {w wr Y W9 : World} {p k t q n c c9 n1 c1 n2 c2 : Nat} {L M : List RowL} {r : RowL} {xs : List Value} {A A9 A1 A2 : Option Addr} (hS : Sys wr p k t M (.slice A n c)) (hM : M.length = n)
    (hst : StepsOf wr M xs) (rr : RowIs wr r (.agg #[.slice A1 n1 c1, .slice A2 n2 c2])) (hroom : n1 ≤ c1) (hC : Chg (Its p (.slice A n c)) w wr) (hG : Good k t (growL r L)) (hR : Red (ledE (growL r L))) (HQ : growL r L = M.take q ++ [r] ++ M.drop q) (hq : q ≤ n)
    (hY : Below wr.heap.size wr Y) (hC9 : Chg (fun g => some g = (Value.slice A n c).ownBlock) Y W9)
    (hsr9 : SRow W9 (.slice A9 (n + 1) c9) (n + 1) (xs.take (q * 3) ++ [.slice A1 n1 c1, .slice A2 n2 c2, .int .i64 (leadI r.1)] ++ xs.drop (q * 3)))
    (hown : (Value.slice A9 (n + 1) c9).ownBlock = (Value.slice A n c).ownBlock ∨ ∃ g, (Value.slice A9 (n + 1) c9).ownBlock = some g ∧ Y.heap.size ≤ g) :
    Sys (W9.setCell ⟨p, 2, none⟩ (.slice A9 (n + 1) c9)) p k t (growL r L) (.slice A9 (n + 1) c9) ∧ (∀ g, Its p (.slice A9 (n + 1) c9) g → Its p (.slice A n c) g ∨ w.heap.size ≤ g) ∧ Chg (Its p (.slice A n c)) w (W9.setCell ⟨p, 2, none⟩ (.slice A9 (n + 1) c9)) := by
  have hpv := hS.2.2.2.2.2.2.2
  have hbp9 := (hS.1.below hY hS.1.lt).chg hC9 (fun e => hpv e)
  have hbl := (hS.step hY).byteless
  have hk : Chg (Its p (.slice A n c)) Y W9 := hC9.imp (fun g hg => .inr hg)
  have hst9 := (hst.step hY).chg hk hbl
  have rr9 := (rr.step hY).chg hk hbl
  have hst10 := hst9.ins rr9 hroom (by omega : q ≤ M.length)
  have hkc : Chg (fun g => g = p) W9 (W9.setCell ⟨p, 2, none⟩ (.slice A9 (n + 1) c9)) := (Chg.refl (fun g => g = p) W9).setCell (p := ⟨p, 2, none⟩) rfl _
  have hst11 := hst10.chg hkc (head_byteless hbp9)
  have hbp11 : Blk (W9.setCell ⟨p, 2, none⟩ (.slice A9 (n + 1) c9)) p 99 #[.int .i64 (k : Int), .int .i64 (t : Int), .slice A9 (n + 1) c9] := hbp9.set 2 _
  have hplt := hS.1.lt
  have hys := hY.size
  have hws := hC.size
  have hne : some p ≠ (Value.slice A9 (n + 1) c9).ownBlock := fun e => by
    rcases hown with h | ⟨g, h, hg⟩
    · exact hpv (e.trans h)
    · rw [h] at e
      injection e with e
      omega
  have hsr11 := hsr9.keep (w' := W9.setCell ⟨p, 2, none⟩ (.slice A9 (n + 1) c9)) fun g hg hl => hkc.block g hl (fun e => hne (by rw [← hg, e]))
  have hlen : (growL r L).length = n + 1 := by
    rw [HQ]
    simp only [List.length_append, List.length_take, List.length_drop, List.length_cons, List.length_nil]
    omega
  refine ⟨⟨hbp11, ⟨_, by rw [hlen]; exact hsr11, by rw [HQ]; exact hst11⟩, hG, hR, hS.2.2.2.2.1, hS.2.2.2.2.2.1, hS.2.2.2.2.2.2.1, hne⟩, ?_, ((hC.trans (Chg.of_below hY)).trans hk).setCell (.inl rfl) _⟩
  rintro g (rfl | hg)
  · exact .inl (.inl rfl)
  · rcases hown with h | ⟨g', h, hge⟩
    · exact .inl (.inr (hg.trans h))
    · rw [h] at hg
      injection hg with hg
      exact .inr (by omega)
set_option maxHeartbeats 8000000 in
theorem egrow_any {w : World} {p k t i : Nat} {L : List RowL} {v : Value} {r : RowL} {A1 A2 : Option Addr} {n1 c1 n2 c2 : Nat} (h : Sys w p k t L v) (hr : RowIs w r (.agg #[.slice A1 n1 c1, .slice A2 n2 c2])) (hroom : n1 ≤ c1) (hc : Comes k t L r i) (hlt : L.length < k) :
    Calls Try.prog 64 #[.pointer (some ⟨p, 0, none⟩), .agg #[.slice A1 n1 c1, .slice A2 n2 c2]] w fun e w' => ∃ v', (∃ u, e = .returned u) ∧ Sys w' p k t (growL r L) v' ∧ (∀ g, Its p v' g → Its p v g ∨ w.heap.size ≤ g) ∧ Chg (Its p v) w w' := by
  obtain ⟨p1, p2, l1, l2⟩ := hr.parts
  clear hr
  have hb0 := balloc w (.cells #[.slice A1 n1 c1, .slice A2 n2 c2] 58)
  have b3 := Blk.new w 58 #[.slice A1 n1 c1, .slice A2 n2 c2]
  have rr : RowIs _ r _ := (RowIs.mk (c := c1) (c2 := c2) p1 p2 l1 l2).step hb0
  have HS := h.step hb0
  have HI := Lib.hid h.lt
  have HB := Lib.hid h.byteless
  clear p1 p2
  go_enter Try.func64, Try.ntmps64
  go_wp2_with fail
  generalize w.alloc (.cells #[.slice A1 n1 c1, .slice A2 n2 c2] 58) = V at *
  have HC := Lib.hid fun W (hW : Below V.heap.size V W) => lead_any (w := W) (c := c1) (rr.step hW).parts.1 (by omega)
  have HX : Hid (∀ w', Below V.heap.size V w' → (Below V.heap.size V w' ∧ w'.cell? ⟨w.heap.size, 0, none⟩ = some (.slice A1 n1 c1) ∧ w'.cell? ⟨w.heap.size, 1, none⟩ = some (.slice A2 n2 c2))) := Lib.hid fun w' hb' => by
    obtain ⟨z0, z1, _⟩ := cells2 (b3.below hb' b3.lt)
    exact ⟨hb', z0, z1⟩
  have HL := Lib.hid hc
  clear hc
  go_cut [4] (fun s4 wx => ∃ g, s4 = .pointer (some ⟨g, 0, none⟩) ∧ V.heap.size ≤ g ∧ Blk wx g 102 #[.slice A1 n1 c1, .slice A2 n2 c2, .int .i64 (leadI r.1)] ∧ Below V.heap.size V wx)
  case first =>
    go_region_held3 (fun w' => Below V.heap.size V w' ∧ w'.cell? ⟨w.heap.size, 0, none⟩ = some (.slice A1 n1 c1) ∧ w'.cell? ⟨w.heap.size, 1, none⟩ = some (.slice A2 n2 c2))
      ((refine HX.out _ ?_; first | exact (Below.refl _ _).drew | assumption | exact bstep (And.left ‹Below V.heap.size V _ ∧ _›) (balloc _ _) | go_grown))
      (first
        | (go_at_call 78; (with_reducible refine (HC.out _ (And.left ‹Below V.heap.size V _ ∧ _›)).mono ?_); rintro e w' ⟨rfl, rfl⟩))
    all_goals
      go_wp2_with fail
      go_meet
      first
      | exact ⟨_, rfl, Nat.le_refl _, (Blk.new V _ _).drew, (balloc V _).drew⟩
      | exact ⟨_, rfl, Nat.le_refl _, Blk.new V.drew _ _, ((Below.refl _ _).drew).alloc (Nat.le_refl _) _⟩
      | exact ⟨_, rfl, Nat.le_refl _, Blk.new V _ _, balloc V _⟩
  case rest =>
    obtain ⟨x4, rfl, hx4, b4, kb⟩ := hcut
    replace rr := rr.step kb
    replace HS := HS.step kb
    have hb1 := bstep hb0 kb
    clear HX HC b3 kb
    obtain ⟨s0, s1, s2, _, _, _⟩ := cells3 HS.1
    obtain ⟨xs, hsr, hst⟩ := HS.2.1
    obtain ⟨A, c, rfl, hc1, hc2⟩ := hsr.val
    go_wp2_with fail
    have hCg : Chg (Its p (.slice A L.length c)) w wc := Chg.of_below hb1
    have hx4w : ∀ g, Its p (.slice A L.length c) g → g ≠ x4 := fun g hg e => by have := HI.out g hg; have := hb0.size; omega
    have HX4 := Lib.hid hx4w
    have hbp := HS.1
    have hmid : StepsOf wc (midL r L 0) xs := by rw [midL_zero]; exact hst
    have Hl := Lib.hid HL.out.1
    have HG := Lib.hid h.2.2.1
    have HRed := Lib.hid h.2.2.2.1
    have Hkk := Lib.hid h.2.2.2.2
    clear s0 s1 s2 hb0 hb1 HS hst h hx4w hx4 HB
    go_loopw [17] (fun ix wr => ∃ (j : Nat) (xs : List Value), j ≤ L.length ∧ ix = .int .i64 (j : Int) ∧ SRow wr (.slice A L.length c) L.length xs ∧ StepsOf wr (midL r L j) xs ∧ Blk wr p 99 #[.int .i64 (k : Int), .int .i64 (t : Int), .slice A L.length c] ∧
      Blk wr x4 102 #[.slice A1 n1 c1, .slice A2 n2 c2, .int .i64 (leadI r.1)] ∧ RowIs wr r (.agg #[.slice A1 n1 c1, .slice A2 n2 c2]) ∧ Chg (Its p (.slice A L.length c)) w wr) (fun ix _ => L.length - (intOf ix).toNat)
    case atStart => exact ⟨0, xs, by omega, rfl, hsr, hmid, hbp, b4, rr, hCg⟩
    case round =>
      clear hsr hmid hbp b4 rr hCg
      obtain ⟨j, xs, hj, rfl, hsr, hst, hbp, b4, rr, hC⟩ := hrel
      by_cases hjl : j < L.length
      · obtain ⟨R, cap, A5, n5, c5, A6, n6, c6, e, hR, hcap, hcap2, k0, k1, k2, r5, hroom5⟩ := raw_at (by rw [midL_len]; exact hsr) hst (by rw [midL_len]; exact hjl)
        rw [midL_len] at e
        injection e with e3 e4 e5
        subst e3 e5
        have hML : (midL r L j)[j]?.getD ([], []) = L[j]?.getD ([], []) := by rw [midL_at hjl]
        rw [hML] at k2 r5
        have HN := Lib.hid (midL_next (r := r) hjl)
        have hLm : L[j]?.getD ([], []) ∈ L := by rw [List.getElem?_eq_getElem hjl]; exact List.getElem_mem _
        have HK := Lib.hid (keeps_lead HG.out hLm HL.out)
        have HM := Lib.hid hML
        obtain ⟨o1, o2, _⟩ := HG.out.1 _ hLm
        have E1 := Lib.hid (HL.out.1.trans o1.symm)
        have E2 := Lib.hid (HL.out.2.1.trans o2.symm)
        clear hML hLm o1 o2
        generalize L[j]?.getD ([], []) = o at *
        have hRp : R ≠ p := fun e => by
          subst e
          have h9 := hbp.cell 0
          rw [show wr.cell? ⟨R, 0, none⟩ = _ from hR.cell 0, List.getElem?_toArray, List.getElem?_append_left (by have := hst.1; rw [midL_len] at this; omega)] at h9
          rcases hst.at3 0 _ h9 with ⟨_, _, _, e⟩ | ⟨z, e⟩
          · cases e
          · have hT : Blk wr R 102 _ := hR
            have hT2 : Blk wr R 99 _ := hbp
            unfold Blk at hT hT2
            rw [hT] at hT2
            injection hT2 with hT2
            injection hT2 with _ hT2 _
            exact absurd hT2 (by decide)
        have hRx : R ≠ x4 := HX4.out R (.inr rfl)
        have hpx : p ≠ x4 := HX4.out p (.inl rfl)
        have hRlt := hR.lt
        have hplt := hbp.lt
        have hxlt := b4.lt
        have hz0 := hC.size
        have kb := balloc wr (.cells #[.slice A5 n5 c5, .slice A6 n6 c6, .int .i64 (leadI o.1)] 102)
        have b6 := Blk.new wr 102 #[.slice A5 n5 c5, .slice A6 n6 c6, .int .i64 (leadI o.1)]
        have rr5 := rr.step kb
        have ro5 := r5.step kb
        have hR5 := hR.below kb hR.lt
        have hbp5 := hbp.below kb hbp.lt
        have b45 := b4.below kb b4.lt
        have hsr5 := hsr.step kb
        have hst5 := hst.step kb
        have hC5 := hC.trans (Chg.of_below kb)
        clear rr r5 hR hbp b4 hsr hst hC kb
        go_wp2_with fail
        generalize hW5 : wr.alloc (.cells #[.slice A5 n5 c5, .slice A6 n6 c6, .int .i64 (leadI o.1)] 102) = W5 at *
        have hx6lt : wr.heap.size < W5.heap.size := b6.lt
        have hR6 : R ≠ wr.heap.size := by omega
        have HS : Hid (∀ w', Below W5.heap.size W5 w' → (w'.cell? ⟨p, 2, none⟩ = some (.slice (some ⟨R, 0, none⟩) L.length c) ∧ w'.cell? ⟨x4, 0, none⟩ = some (.slice A1 n1 c1) ∧ w'.cell? ⟨x4, 1, none⟩ = some (.slice A2 n2 c2) ∧ w'.cell? ⟨x4, 2, none⟩ = some (.int .i64 (leadI r.1)) ∧ w'.cell? ⟨wr.heap.size, 0, none⟩ = some (.slice A5 n5 c5) ∧ w'.cell? ⟨wr.heap.size, 1, none⟩ = some (.slice A6 n6 c6))) := Lib.hid fun w' hb' => by
          obtain ⟨_, _, y2, _, _, _⟩ := cells3 (hbp5.below hb' hbp5.lt)
          obtain ⟨y3, y4, y5, _, _, _⟩ := cells3 (b45.below hb' b45.lt)
          obtain ⟨y6, y7, _, _, _, _⟩ := cells3 (b6.below hb' b6.lt)
          exact ⟨y2, y3, y4, y5, y6, y7⟩
        have HT : Hid (∀ (w' : World) (a b : Value), (w'.cell? ⟨p, 2, none⟩ = some (.slice (some ⟨R, 0, none⟩) L.length c) ∧ w'.cell? ⟨x4, 0, none⟩ = some (.slice A1 n1 c1) ∧ w'.cell? ⟨x4, 1, none⟩ = some (.slice A2 n2 c2) ∧ w'.cell? ⟨x4, 2, none⟩ = some (.int .i64 (leadI r.1)) ∧ w'.cell? ⟨wr.heap.size, 0, none⟩ = some (.slice A5 n5 c5) ∧ w'.cell? ⟨wr.heap.size, 1, none⟩ = some (.slice A6 n6 c6)) →
          (((w'.setCell ⟨R, j * 3, none⟩ a).setCell ⟨R, j * 3 + 1, none⟩ b).cell? ⟨p, 2, none⟩ = some (.slice (some ⟨R, 0, none⟩) L.length c) ∧ ((w'.setCell ⟨R, j * 3, none⟩ a).setCell ⟨R, j * 3 + 1, none⟩ b).cell? ⟨x4, 0, none⟩ = some (.slice A1 n1 c1) ∧ ((w'.setCell ⟨R, j * 3, none⟩ a).setCell ⟨R, j * 3 + 1, none⟩ b).cell? ⟨x4, 1, none⟩ = some (.slice A2 n2 c2) ∧ ((w'.setCell ⟨R, j * 3, none⟩ a).setCell ⟨R, j * 3 + 1, none⟩ b).cell? ⟨x4, 2, none⟩ = some (.int .i64 (leadI r.1)) ∧ ((w'.setCell ⟨R, j * 3, none⟩ a).setCell ⟨R, j * 3 + 1, none⟩ b).cell? ⟨wr.heap.size, 0, none⟩ = some (.slice A5 n5 c5) ∧ ((w'.setCell ⟨R, j * 3, none⟩ a).setCell ⟨R, j * 3 + 1, none⟩ b).cell? ⟨wr.heap.size, 1, none⟩ = some (.slice A6 n6 c6))) := Lib.hid fun w' a b ⟨y2, y3, y4, y5, y6, y7⟩ => by
          have far : ∀ q : Addr, q.block ≠ R → ((w'.setCell ⟨R, j * 3, none⟩ a).setCell ⟨R, j * 3 + 1, none⟩ b).cell? q = w'.cell? q := fun q hq => by
            rw [World.cell?_setCell_far _ _ _ _ (fun e => hq e.symm), World.cell?_setCell_far _ _ _ _ (fun e => hq e.symm)]
          exact ⟨(far _ (fun e => hRp e.symm)).trans y2, (far _ (fun e => hRx e.symm)).trans y3, (far _ (fun e => hRx e.symm)).trans y4, (far _ (fun e => hRx e.symm)).trans y5, (far _ (fun e => hR6 e.symm)).trans y6, (far _ (fun e => hR6 e.symm)).trans y7⟩
        have HC5 := Lib.hid fun W (hW : Below W5.heap.size W5 W) => efrom_room (w := W) (c1 := c1) (c2 := c2) (rr5.step hW) (ro5.step hW) hroom5 E1.out E2.out
        have HR5 : Hid (∀ W, Below W5.heap.size W5 W → W.cell? ⟨R, j * 3, none⟩ = some (.slice A5 n5 c5) ∧ W.cell? ⟨R, j * 3 + 1, none⟩ = some (.slice A6 n6 c6) ∧ W.frozen? ⟨R, j * 3, none⟩ = false ∧ W.frozen? ⟨R, j * 3 + 1, none⟩ = false) := Lib.hid fun W hW => by
          have h9 := hR5.below hW hR5.lt
          have q0 : W5.cell? ⟨R, j * 3, none⟩ = some (.slice A5 n5 c5) := by rw [← hW5]; exact ((balloc wr _).cell (p := ⟨R, j * 3, none⟩) hRlt).trans k0
          have q1 : W5.cell? ⟨R, j * 3 + 1, none⟩ = some (.slice A6 n6 c6) := by rw [← hW5]; exact ((balloc wr _).cell (p := ⟨R, j * 3 + 1, none⟩) hRlt).trans k1
          exact ⟨(hW.cell (p := ⟨R, j * 3, none⟩) hR5.lt).trans q0, (hW.cell (p := ⟨R, j * 3 + 1, none⟩) hR5.lt).trans q1, h9.frozen _, h9.frozen _⟩
        clear k0 k1 k2
        go_region_held3 (fun w' => w'.cell? ⟨p, 2, none⟩ = some (.slice (some ⟨R, 0, none⟩) L.length c) ∧ w'.cell? ⟨x4, 0, none⟩ = some (.slice A1 n1 c1) ∧ w'.cell? ⟨x4, 1, none⟩ = some (.slice A2 n2 c2) ∧ w'.cell? ⟨x4, 2, none⟩ = some (.int .i64 (leadI r.1)) ∧ w'.cell? ⟨wr.heap.size, 0, none⟩ = some (.slice A5 n5 c5) ∧ w'.cell? ⟨wr.heap.size, 1, none⟩ = some (.slice A6 n6 c6))
          (first | (refine HS.out _ ?_; first | exact (Below.refl _ _).drew | assumption) | (refine HT.out _ _ _ ?_; assumption))
          (first
            | (go_at_call 62; (with_reducible refine (HC5.out _ ((Below.refl _ _).drew)).mono ?_); rintro e w7 ⟨A7, n7, c7, A8, n8, c8, rfl, hc7, hr7, b7⟩; have m7 := bstep (Below.refl W5.heap.size W5).drew b7; obtain ⟨z0, z1, z2, z3⟩ := HR5.out _ m7))
        have hR7 := hR5.below m7 hR5.lt
        have hbp7 := hbp5.below m7 hbp5.lt
        have b47 := b45.below m7 b45.lt
        have hst7 := hst5.step m7
        have hsr7 := hsr5.step m7
        have rr7 := rr5.step m7
        have hC7 := hC5.trans (Chg.of_below m7)
        have hlen3 : xs.length = L.length * 3 := by have := hst7.1; rwa [midL_len] at this
        have hB9 := blk_set2 (a := .slice A7 n7 c7) (b := .slice A8 n8 c8) hR7 (show j * 3 + 1 < xs.length by omega)
        have hbl := raw_byteless hbp7 (by rw [midL_len]; exact hsr7) hst7
        have hk9 : Chg (Its p (.slice (some ⟨R, 0, none⟩) L.length c)) w7 ((w7.setCell ⟨R, j * 3, none⟩ (.slice A7 n7 c7)).setCell ⟨R, j * 3 + 1, none⟩ (.slice A8 n8 c8)) :=
          ((Chg.refl _ w7).setCell (p := ⟨R, j * 3, none⟩) (.inr rfl) _).setCell (p := ⟨R, j * 3 + 1, none⟩) (.inr rfl) _
        have hst9 := hst7.set (q := lessAt o r (leadI r.1)) (by rw [midL_len]; exact hjl) hr7 hc7 (by rw [HM.out]; exact HK.out)
        rw [← HN.out] at hst9
        have hst9' := hst9.chg hk9 hbl
        have rr9 := rr7.chg hk9 hbl
        have hbp9 := (hbp7.far (p := (⟨R, j * 3, none⟩ : Addr)) (fun e => hRp e.symm) (.slice A7 n7 c7)).far (p := (⟨R, j * 3 + 1, none⟩ : Addr)) (fun e => hRp e.symm) (.slice A8 n8 c8)
        have b49 := (b47.far (p := (⟨R, j * 3, none⟩ : Addr)) (fun e => hRx e.symm) (.slice A7 n7 c7)).far (p := (⟨R, j * 3 + 1, none⟩ : Addr)) (fun e => hRx e.symm) (.slice A8 n8 c8)
        have hC9 := hC7.trans hk9
        have hsr9 : SRow ((w7.setCell ⟨R, j * 3, none⟩ (.slice A7 n7 c7)).setCell ⟨R, j * 3 + 1, none⟩ (.slice A8 n8 c8)) (.slice (some ⟨R, 0, none⟩) L.length c) L.length ((xs.set (j * 3) (.slice A7 n7 c7)).set (j * 3 + 1) (.slice A8 n8 c8)) :=
          ⟨by simp [hlen3], hst9.one, .inr ⟨R, c, rfl, hc1, hc2, by rw [midL_len] at hB9; exact hB9⟩⟩
        clear hst9 hk9 hbl hB9 hlen3 hC7 rr7 hsr7 hst7 b47 hbp7 hR7 hr7 z0 z1 z2 z3 m7 b7 HC5 HR5 HT HS hC5 hst5 hsr5 b45 hbp5 hR5 ro5 rr5 b6
        go_wp2_with fail
        go_roundw
        case rel => exact ⟨j + 1, _, by omega, by go_num, hsr9, hst9', hbp9, b49, rr9, hC9⟩
        case measure => simp [intOf]; omega
      · obtain rfl : j = L.length := by omega
        rw [midL_all] at hst
        obtain ⟨HG2, HR2⟩ := lessL_good HG.out HRed.out HL.out
        have hll : (lessL r L).length = L.length := by simp [lessL]
        have hS : Sys wr p k t (lessL r L) (.slice A L.length c) := ⟨hbp, ⟨xs, by rw [hll]; exact hsr, hst⟩, HG2, HR2, Hkk.out⟩
        have hi1 := HL.out.2.2.1
        have hib : i < k := by have := (lead_fn_ne hi1).2.2; have := Hl.out; omega
        have hk4 := Hkk.out.2.1
        have HPl := Lib.hid fun W (hW : Below wr.heap.size wr W) => eplace_any (z := leadI r.1) (hS.step hW) (by omega) (by omega)
        have hq : placeL (lessL r L) (leadI r.1) ≤ L.length := by have := place_le (lessL r L) (leadI r.1); omega
        have hxp := hbp.lt
        have hv0 : ∀ g, some g = (Value.slice A L.length c).ownBlock → g < wr.heap.size := fun g hg => hsr.lt hg
        have HIn := Lib.hid fun W vb (hW : Below wr.heap.size wr W) (hb : Blk W vb 102 #[.slice A1 n1 c1, .slice A2 n2 c2, .int .i64 (leadI r.1)]) (hge : wr.heap.size ≤ vb) => insert_any (hsr.step hW) hq hb (fun e => by have := hv0 _ e; omega) (by simp [Value.oneCell']) (by omega)
        have HQ : Hid (growL r L = (lessL r L).take (placeL (lessL r L) (leadI r.1)) ++ [r] ++ (lessL r L).drop (placeL (lessL r L) (leadI r.1))) := Lib.hid rfl
        generalize placeL (lessL r L) (leadI r.1) = q at *
        clear hi1
        have HGr := Lib.hid (show Good k t (growL r L) ∧ Red (ledE (growL r L)) from ⟨(growL_good HG.out HRed.out HL.out).1, (growL_good HG.out HRed.out HL.out).2.1⟩)
        have hpv : ¬ (some p = Value.ownBlock (.slice A L.length c)) := Hkk.out.2.2.2
        obtain ⟨s0, s1, s2, _, _, _⟩ := cells3 hbp
        obtain ⟨d0, d1, d2, _, _, _⟩ := cells3 b4
        go_wp2_with fail
        have Hp := Lib.hid hbp
        have H4 := Lib.hid b4
        have hx4l := b4.lt
        have HD : Hid (∀ W, Below wr.heap.size wr W → Below wr.heap.size wr W ∧ (W.cell? ⟨p, 2, none⟩ = some (.slice A L.length c) ∧ W.cell? ⟨x4, 0, none⟩ = some (.slice A1 n1 c1) ∧ W.cell? ⟨x4, 1, none⟩ = some (.slice A2 n2 c2) ∧ W.cell? ⟨x4, 2, none⟩ = some (.int .i64 (leadI r.1)) ∧ p < W.heap.size ∧ x4 < W.heap.size)) := Lib.hid fun W hW => by
          obtain ⟨_, _, y2, _, _, _⟩ := cells3 (Hp.out.below hW Hp.out.lt)
          obtain ⟨y3, y4, y5, _, _, _⟩ := cells3 (H4.out.below hW H4.out.lt)
          exact ⟨hW, y2, y3, y4, y5, Nat.lt_of_lt_of_le hxp hW.size, Nat.lt_of_lt_of_le hx4l hW.size⟩
        have HE : Hid (∀ W w' v9, Below wr.heap.size wr W → InsEnds (.slice A L.length c) L.length q xs [.slice A1 n1 c1, .slice A2 n2 c2, .int .i64 (leadI r.1)] W (.returned v9) w' → w'.cell? ⟨p, 2, none⟩ = some (.slice A L.length c) ∧ w'.frozen? ⟨p, 2, none⟩ = false) := Lib.hid fun W w' v9 hW ⟨_, _, _, _, _, hk⟩ => by
          have h9 := (Hp.out.below hW Hp.out.lt).chg hk (fun e => hpv e)
          obtain ⟨_, _, y2, _, _, y5⟩ := cells3 h9
          exact ⟨y2, y5⟩
        clear hbp b4
        go_region_with (first
          | (go_at_call 69; (with_reducible refine (HPl.out _ (by first | exact (Below.refl _ _).drew | exact ((Below.refl _ _).drew).alloc (Nat.le_refl _) _ | exact (balloc wr _).drew)).mono ?_); rintro e w3 ⟨rfl, b3⟩; obtain ⟨m3, y0, y1, y2, y3, y4, y5⟩ := HD.out _ (bstep (by first | exact (Below.refl _ _).drew | exact ((Below.refl _ _).drew).alloc (Nat.le_refl _) _ | exact (balloc wr _).drew : Below wr.heap.size wr _) b3))
          | (go_at_call 85; (with_reducible refine (HIn.out _ _ (by first | exact m3 | exact bstep m3 (balloc _ _)) (by first | exact Blk.new _ _ _ | exact (Blk.new wr.drew _ _).below b3 (Blk.new wr.drew _ _).lt | exact (Blk.new wr _ _).drew.below b3 (Blk.new wr _ _).drew.lt) (by first | exact Nat.le_refl _ | exact m3.size)).mono ?_); rintro e w9 ⟨v9, rfl, hsr9, hown, hnn, hC9⟩; have hm9 : Below wr.heap.size wr _ ∧ Chg _ _ w9 := ⟨(by first | exact m3 | exact bstep m3 (balloc _ _)), hC9⟩; obtain ⟨z0, z1⟩ := HE.out _ w9 v9 (by first | exact m3 | exact bstep m3 (balloc _ _)) ⟨v9, rfl, hsr9, hown, hnn, hC9⟩; obtain ⟨A9, c9, rfl, hq1, hq2⟩ := hsr9.val))
        all_goals
          have hend := egrow_end hS hll hst rr hroom hC HGr.out.1 HGr.out.2 HQ.out hq (by first | exact bstep hm9.1 (balloc _ _) | exact hm9.1) hC9 hsr9 hown
          clear HPl HIn HD HE HQ hm9 hC9 hsr9 hown hnn m3 hst hsr rr hC hS
          go_end0
          exact ⟨_, ⟨_, rfl⟩, hend⟩
end Go.Proofs.Ytaidbcppecoenaa

