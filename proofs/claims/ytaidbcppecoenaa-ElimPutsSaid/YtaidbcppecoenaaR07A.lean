import Derived.Test.YtaidbcppecoenaaGridF
import Derived.Deep.DeepCutAuto
import Derived.Deep.CutRange
import Derived.Deep.RegionWith
/- The document's lists of rows: what is left of a row behind them. -/
namespace Go.Proofs.Ytaidbcppecoenaa
open Go.RowKit
set_option linter.unusedVariables false
set_option maxRecDepth 100000

/-- A slice of rows, of two cells each, in a block below B. -/
def RL (w : World) (B : Nat) (A : Option Addr) (n : Nat) (L : List RowL) : Prop :=
  n = L.length ∧ (0 < n → ∃ g o, A = some ⟨g, o, none⟩ ∧ g < B ∧ g < w.heap.size ∧ ∀ i r, L[i]? = some r → ∃ A1 n1 c1 A2 n2 c2,
    w.cell? ⟨g, o + i * 2, none⟩ = some (.slice A1 n1 c1) ∧ w.cell? ⟨g, o + i * 2 + 1, none⟩ = some (.slice A2 n2 c2) ∧ RowIs w r (.agg #[.slice A1 n1 c1, .slice A2 n2 c2]))
theorem RL.nil {w : World} {B : Nat} {A : Option Addr} : RL w B A 0 [] := ⟨rfl, fun h => absurd h (by omega)⟩
theorem RL.more {w : World} {B C : Nat} {A : Option Addr} {n : Nat} {L : List RowL} (h : RL w B A n L) (hc : B ≤ C) : RL w C A n L := by
  refine ⟨h.1, fun hn => ?_⟩
  obtain ⟨g, o, e, hB, hg, hr⟩ := h.2 hn
  exact ⟨g, o, e, by omega, hg, hr⟩
theorem RL.step {w w' : World} {B : Nat} {A : Option Addr} {n : Nat} {L : List RowL} (h : RL w B A n L) (hb : Below w.heap.size w w') : RL w' B A n L := by
  refine ⟨h.1, fun hn => ?_⟩
  obtain ⟨g, o, e, hB, hg, hc⟩ := h.2 hn
  refine ⟨g, o, e, hB, Nat.lt_of_lt_of_le hg hb.size, fun i r hi => ?_⟩
  obtain ⟨A1, n1, c1, A2, n2, c2, h0, h1, hr⟩ := hc i r hi
  exact ⟨A1, n1, c1, A2, n2, c2, (hb.cell (p := ⟨g, o + i * 2, none⟩) hg).trans h0, (hb.cell (p := ⟨g, o + i * 2 + 1, none⟩) hg).trans h1, hr.step hb⟩
theorem RL.far2 {w : World} {B h i j n : Nat} {A : Option Addr} {L : List RowL} {T : TypeId} {cs : Array Value} {x y : Value} (hL : RL w B A n L) (hh : Blk w h T cs) (hn : NoBytes cs) (hB : B ≤ h) : RL ((w.setCell ⟨h, i, none⟩ x).setCell ⟨h, j, none⟩ y) B A n L := by
  refine ⟨hL.1, fun h0 => ?_⟩
  obtain ⟨g, o, e, hg, hw, hc⟩ := hL.2 h0
  refine ⟨g, o, e, hg, by simpa [World.setCell] using hw, fun k r hi => ?_⟩
  obtain ⟨A1, n1, c1, A2, n2, c2, k0, k1, hr⟩ := hc k r hi
  have hne : h ≠ g := by omega
  refine ⟨A1, n1, c1, A2, n2, c2, ?_, ?_, hr.setTwo hh hn⟩
  · rw [World.cell?_setCell_far _ _ _ _ (fun e => hne e), World.cell?_setCell_far _ _ _ _ (fun e => hne e)]; exact k0
  · rw [World.cell?_setCell_far _ _ _ _ (fun e => hne e), World.cell?_setCell_far _ _ _ _ (fun e => hne e)]; exact k1
theorem RL.at_ {w : World} {B : Nat} {A : Option Addr} {n k : Nat} {L : List RowL} (h : RL w B A n L) (hk : k < n) : ∃ g o A1 n1 c1 A2 n2 c2, A = some ⟨g, o, none⟩ ∧
    w.cell? ⟨g, o + k * 2, none⟩ = some (.slice A1 n1 c1) ∧ w.cell? ⟨g, o + k * 2 + 1, none⟩ = some (.slice A2 n2 c2) ∧ RowIs w (L[k]?.getD ([], [])) (.agg #[.slice A1 n1 c1, .slice A2 n2 c2]) := by
  obtain ⟨g, o, e, hB, hg, hc⟩ := h.2 (by omega)
  have hl := h.1
  obtain ⟨A1, n1, c1, A2, n2, c2, h0, h1, hr⟩ := hc k L[k] (List.getElem?_eq_getElem (by omega))
  refine ⟨g, o, A1, n1, c1, A2, n2, c2, e, h0, h1, ?_⟩
  rw [List.getElem?_eq_getElem (by omega)]
  exact hr
/-- What is left of a row behind others, one by one. -/
def restL (L : List RowL) (x : RowL) : RowL := L.foldl (fun x o => lessAt x o (leadI o.1)) x
/-- Rows of one size, of which each leads. -/
def Suit (n m : Nat) (L : List RowL) : Prop := ∀ o ∈ L, o.1.length = n ∧ o.2.length = m ∧ 0 ≤ leadI o.1
theorem rest_len {n m : Nat} {L : List RowL} (h : Suit n m L) (x : RowL) (h1 : x.1.length = n) (h2 : x.2.length = m) : (restL L x).1.length = n ∧ (restL L x).2.length = m := by
  induction L generalizing x with
  | nil => exact ⟨h1, h2⟩
  | cons o L ih =>
    obtain ⟨z1, z2, _⟩ := h o (by simp)
    have h3 := lessAt_len (i := leadI o.1) (show o.1.length = x.1.length by omega) (show o.2.length = x.2.length by omega)
    exact ih (fun o ho => h o (by simp [ho])) _ (h3.1.trans h1) (h3.2.trans h2)
theorem rest_snoc (L : List RowL) (x : RowL) (k : Nat) (hk : k < L.length) : restL (L.take (k + 1)) x = lessAt (restL (L.take k) x) (L[k]?.getD ([], [])) (leadI (L[k]?.getD ([], [])).1) := by
  unfold restL
  rw [List.take_add_one, List.foldl_append, List.getElem?_eq_getElem hk]
  rfl
theorem suit_take {n m : Nat} {L : List RowL} (h : Suit n m L) (k : Nat) : Suit n m (L.take k) := fun o ho => h o (List.mem_of_mem_take ho)
theorem suit_at {n m k : Nat} {L : List RowL} (h : Suit n m L) (hk : k < L.length) : (L[k]?.getD ([], [])).1.length = n ∧ (L[k]?.getD ([], [])).2.length = m ∧ 0 ≤ leadI (L[k]?.getD ([], [])).1 := by
  rw [List.getElem?_eq_getElem hk]
  exact h _ (List.getElem_mem hk)
set_option maxHeartbeats 600000 in
theorem refrest_any {w : World} {n m k c : Nat} {A : Option Addr} {L : List RowL} {r : RowL} {x : Value} (hL : RL w w.heap.size A k L) (hx : RowIs w r x) (hs : Suit n m L) (h1 : r.1.length = n) (h2 : r.2.length = m) (hk : k ≤ 140737488355327) :
    Calls Try.prog 77 #[.slice A k c, x] w (RowEnds (restL L r) w) := by
  obtain ⟨A1, n1, c1, A2, n2, c2, rfl, p1, p2, l1, l2⟩ := hx
  obtain ⟨hb0, b3, b4⟩ := two_alloc (w := w) (T := 65) (T2 := 65) (cs := #[.slice A1 n1 c1, .slice A2 n2 c2]) (cs2 := #[.slice none 0 0, .slice none 0 0])
  have hH : Holds _ w.heap.size 65 r := ⟨_, _, _, _, _, _, b3, (RowIs.mk (c := c1) (c2 := c2) p1 p2 l1 l2).step hb0⟩
  have hLL := hL.step hb0
  have Hl := Lib.hid hL.1
  have Hs := Lib.hid hs
  have H1 := Lib.hid h1
  have H2 := Lib.hid h2
  clear hL p1 p2 hs h1 h2 b3
  go_enter Try.func77, Try.ntmps77
  go_wp2_with fail
  go_loopw [10] (fun v wr => ∃ i : Nat, i ≤ k ∧ v = .int .i64 (i : Int) ∧ RL wr w.heap.size A k L ∧ Holds wr w.heap.size 65 (restL (L.take i) r) ∧ Blk wr (w.heap.size + 1) 65 #[.slice none 0 0, .slice none 0 0] ∧ Below w.heap.size w wr) (fun v _ => k - (intOf v).toNat)
  case atStart => exact ⟨0, by omega, rfl, hLL, hH, b4, hb0⟩
  case round =>
    clear hb0 hH hLL b4
    obtain ⟨i, hi, rfl, hL, hH, b4, hb⟩ := hrel
    by_cases hlt : i < k
    · have t : decide ((i : Int) < (k : Int)) = true := by simp; omega
      obtain ⟨g, o, A5, n5, c5, A6, n6, c6, rfl, e0, e1, r5⟩ := hL.at_ hlt
      have hsn := Lib.hid (rest_snoc L r i (by have := Hl.out; omega))
      have hz := Lib.hid (suit_at Hs.out (k := i) (by have := Hl.out; omega))
      have hw := Lib.hid (rest_len (suit_take Hs.out i) r H1.out H2.out)
      obtain ⟨q5, q6, l5, l6⟩ := r5.parts
      have hh6 := b4.lt
      go_wp2_with fail
      have kb := balloc wr (.cells #[.slice A5 n5 c5, .slice A6 n6 c6] 65)
      have b6 := Blk.new wr 65 #[.slice A5 n5 c5, .slice A6 n6 c6]
      refine (reflead_any (q5.step kb) (by omega)).mono ?_
      rintro e w' ⟨rfl, rfl⟩
      replace hL := hL.step kb
      replace hH := hH.step kb
      replace b4 := b4.below kb b4.lt
      replace r5 := r5.step kb
      replace hb := bstep hb kb
      clear q5 q6 l5 l6 e0 e1 kb
      generalize wr.alloc (.cells #[.slice A5 n5 c5, .slice A6 n6 c6] 65) = V at *
      obtain ⟨j, hj⟩ : ∃ j : Nat, leadI (L[i]?.getD ([], [])).1 = (j : Int) := ⟨(leadI (L[i]?.getD ([], [])).1).toNat, by have := hz.out.2.2; omega⟩
      have hjn : j < n := by
        have h1 := lead_bounds (L[i]?.getD ([], [])).1
        have h2 := hz.out.1
        omega
      have hsn2 : Hid (restL (L.take (i + 1)) r = (lessR (restL (L.take i) r) ((restL (L.take i) r).1[j]?.getD 0) (L[i]?.getD ([], []))).1) := Lib.hid (by
        rw [hsn.out, hj]
        unfold lessAt atB
        rw [if_pos (by rw [hw.out.1]; omega), Int.toNat_natCast])
      rw [hj]
      clear hj hsn
      generalize hy : L[i]?.getD ([], []) = y at *
      generalize hx : restL (L.take i) r = x at *
      clear hy hx
      obtain ⟨A7, n7, c7, A8, n8, c8, b3, r3⟩ := hH
      obtain ⟨hc0, hc1, hf0, hf1⟩ := cells2 b3
      obtain ⟨hd0, hd1, _, _⟩ := cells2 b6
      obtain ⟨q7, q8, l7, l8⟩ := r3.parts
      obtain ⟨b, of, rfl, hbV, hbyte⟩ := q7.at_ (k := j) (by have := q7.1; have := hw.out.1; omega)
      have hlt7 : j < n7 := by have := q7.1; have := hw.out.1; omega
      generalize x.1[j]?.getD 0 = a at *
      clear q7 q8
      have HS : Hid (∀ w', Below V.heap.size V w' → (Below V.heap.size V w' ∧ w'.cell? ⟨w.heap.size, 0, none⟩ = some (.slice (some ⟨b, of, none⟩) n7 c7) ∧ w'.cell? ⟨w.heap.size, 1, none⟩ = some (.slice A8 n8 c8) ∧ w'.cell? ⟨wr.heap.size, 0, none⟩ = some (.slice A5 n5 c5) ∧ w'.cell? ⟨wr.heap.size, 1, none⟩ = some (.slice A6 n6 c6) ∧ w'.cell? ⟨b, of + j, none⟩ = some (.int .u8 (bv a)))) := Lib.hid fun w' hb => by
        obtain ⟨z1, z2, z3, z4⟩ := cells22 b3 b6 hb
        exact ⟨hb, z1, z2, z3, z4, (hb.cell (p := ⟨b, of + j, none⟩) hbV).trans hbyte⟩
      have hN : Hid (∀ w' : World, (Below V.heap.size V w') → ∀ y A9 n9 c9 A10 n10 c10, RowIs w' y (.agg #[.slice A9 n9 c9, .slice A10 n10 c10]) → 
          Holds ((w'.setCell ⟨w.heap.size, 0, none⟩ (.slice A9 n9 c9)).setCell ⟨w.heap.size, 1, none⟩ (.slice A10 n10 c10)) w.heap.size 65 y ∧
          RL ((w'.setCell ⟨w.heap.size, 0, none⟩ (.slice A9 n9 c9)).setCell ⟨w.heap.size, 1, none⟩ (.slice A10 n10 c10)) w.heap.size (some ⟨g, o, none⟩) k L ∧
          Blk ((w'.setCell ⟨w.heap.size, 0, none⟩ (.slice A9 n9 c9)).setCell ⟨w.heap.size, 1, none⟩ (.slice A10 n10 c10)) (w.heap.size + 1) 65 #[.slice none 0 0, .slice none 0 0] ∧
          Below w.heap.size w ((w'.setCell ⟨w.heap.size, 0, none⟩ (.slice A9 n9 c9)).setCell ⟨w.heap.size, 1, none⟩ (.slice A10 n10 c10))) := Lib.hid fun w' b' y A9 n9 c9 A10 n10 c10 r7 => by
        have b3' := b3.below b' b3.lt
        have b4' := b4.below b' b4.lt
        exact ⟨Holds.turn b3' NoBytes.two r7, (hL.step b').far2 b3' NoBytes.two (Nat.le_refl _), (b4'.far (p := (⟨w.heap.size, 0, none⟩ : Addr)) (show w.heap.size + 1 ≠ w.heap.size by omega) _).far (p := (⟨w.heap.size, 1, none⟩ : Addr)) (show w.heap.size + 1 ≠ w.heap.size by omega) _, ((bstep hb b').setCell (Nat.le_refl _) _).setCell (Nat.le_refl _) _⟩
      clear hL hb b4 hbV
      go_wp2_with fail
      clear HS
      obtain ⟨he0, he1, _⟩ := cells2 b6
      go_region_with (go_at_call 66; (with_reducible refine (c_refless a (r3.step (Below.refl V.heap.size V).drew) (r5.step (Below.refl V.heap.size V).drew)).mono ?_); rintro e w7 ⟨v7, rfl, ⟨A9, n9, c9, A10, n10, c10, rfl, q9, q10, l9, l10⟩, b7⟩; have kB7 := bstep (Below.refl V.heap.size V).drew b7; obtain ⟨z0, z1, z2, z3⟩ := cells2 (b3.below kB7 b3.lt))
      all_goals
        go_wp2_with fail
        have hM := hN.out _ kB7 _ _ _ _ _ _ _ (RowIs.mk (c := c9) (c2 := c10) q9 q10 l9 l10)
        go_roundw
        case rel => exact ⟨i + 1, by omega, rfl, hM.2.1, hsn2.out ▸ hM.1, hM.2.2.1, hM.2.2.2⟩
        case measure => simp [intOf]; omega
    · have t : decide ((i : Int) < (k : Int)) = false := by simp; omega
      have hik : i = k := by omega
      subst hik
      rw [List.take_of_length_le (by have := Hl.out; omega)] at hH
      obtain ⟨A3, n3, c3, A4, n4, c4, b3, r3⟩ := hH
      obtain ⟨hc0, hc1, hf0, hf1⟩ := cells2 b3
      obtain ⟨hd0, hd1, he0, he1⟩ := cells2 b4
      go_wp2_with fail
      obtain ⟨q3, q4, l3, l4⟩ := r3.parts
      refine end_row (v := .agg #[.slice A3 n3 c3, .slice A4 n4 c4]) b4 (by intro W e0 e1; simp [results, Try.results77, go_sem, e0, e1]) rfl fun W hl => ?_
      exact RowEnds.mk (hl.row q3 b4 NoBytes.two) (hl.row q4 b4 NoBytes.two) l3 l4 (hl.below _ _ (by omega) hb)
end Go.Proofs.Ytaidbcppecoenaa

/- The document's lists of rows: rows appended. -/
namespace Go.Proofs.Ytaidbcppecoenaa
open Go.RowKit
set_option linter.unusedVariables false
set_option maxRecDepth 100000

/-- Cells, two for each row, that read as these rows. -/
def CellsOf (w : World) (L : List RowL) (xs : List Value) : Prop := xs.length = L.length * 2 ∧ ∀ i r, L[i]? = some r → ∃ A1 n1 c1 A2 n2 c2,
  xs[i * 2]? = some (.slice A1 n1 c1) ∧ xs[i * 2 + 1]? = some (.slice A2 n2 c2) ∧ RowIs w r (.agg #[.slice A1 n1 c1, .slice A2 n2 c2])
theorem CellsOf.nil (w : World) : CellsOf w [] [] := ⟨rfl, fun i r h => by simp at h⟩
theorem CellsOf.append {w : World} {L M : List RowL} {xs ys : List Value} (h : CellsOf w L xs) (k : CellsOf w M ys) : CellsOf w (L ++ M) (xs ++ ys) := by
  refine ⟨by simp [h.1, k.1]; omega, fun i r hi => ?_⟩
  by_cases hl : i < L.length
  · rw [List.getElem?_append_left hl] at hi
    obtain ⟨A1, n1, c1, A2, n2, c2, e0, e1, hr⟩ := h.2 i r hi
    have := h.1
    exact ⟨A1, n1, c1, A2, n2, c2, by rw [List.getElem?_append_left (by omega)]; exact e0, by rw [List.getElem?_append_left (by omega)]; exact e1, hr⟩
  · rw [List.getElem?_append_right (by omega)] at hi
    obtain ⟨A1, n1, c1, A2, n2, c2, e0, e1, hr⟩ := k.2 _ r hi
    have hx := h.1
    refine ⟨A1, n1, c1, A2, n2, c2, ?_, ?_, hr⟩
    · rw [List.getElem?_append_right (by omega), ← e0]; congr 1; omega
    · rw [List.getElem?_append_right (by omega), ← e1]; congr 1; omega
theorem CellsOf.one {w : World} {r : RowL} {A1 A2 : Option Addr} {n1 c1 n2 c2 : Nat} (h : RowIs w r (.agg #[.slice A1 n1 c1, .slice A2 n2 c2])) : CellsOf w [r] [.slice A1 n1 c1, .slice A2 n2 c2] := by
  refine ⟨rfl, fun i q hi => ?_⟩
  match i, hi with
  | 0, hi =>
    simp at hi
    subst hi
    exact ⟨A1, n1, c1, A2, n2, c2, rfl, rfl, h⟩
theorem CellsOf.oneCell {w : World} {L : List RowL} {xs : List Value} (h : CellsOf w L xs) : ∀ u ∈ xs, u.oneCell' = true := by
  intro u hu
  obtain ⟨j, hj, e⟩ := List.getElem_of_mem hu
  have hl := h.1
  obtain ⟨A1, n1, c1, A2, n2, c2, e0, e1, _⟩ := h.2 (j / 2) L[j / 2] (List.getElem?_eq_getElem (by omega))
  have e2 : xs[j]? = some u := by rw [List.getElem?_eq_getElem hj, e]
  rcases Nat.mod_two_eq_zero_or_one j with hm | hm
  · have : j / 2 * 2 = j := by omega
    rw [this, e2] at e0
    injection e0 with e0
    subst e0
    rfl
  · have : j / 2 * 2 + 1 = j := by omega
    rw [this, e2] at e1
    injection e1 with e1
    subst e1
    rfl
theorem RL.take {w : World} {B : Nat} {A : Option Addr} {n k : Nat} {L : List RowL} (h : RL w B A n L) (hk : k ≤ n) : RL w B A k (L.take k) := by
  refine ⟨by rw [List.length_take]; have := h.1; omega, fun h0 => ?_⟩
  obtain ⟨g, o, e, hB, hg, hc⟩ := h.2 (by omega)
  refine ⟨g, o, e, hB, hg, fun i r hi => hc i r ?_⟩
  rw [List.getElem?_take] at hi
  split at hi
  · exact hi
  · cases hi
theorem RL.drop {w : World} {B g o : Nat} {n k : Nat} {L : List RowL} (h : RL w B (some ⟨g, o, none⟩) n L) : RL w B (some ⟨g, o + k * 2, none⟩) (n - k) (L.drop k) := by
  refine ⟨by rw [List.length_drop]; have := h.1; omega, fun h0 => ?_⟩
  obtain ⟨g', o', e, hB, hg, hc⟩ := h.2 (by omega)
  injection e with e
  injection e with e1 e2 e3
  subst e1 e2
  refine ⟨g, o + k * 2, rfl, hB, hg, fun i r hi => ?_⟩
  rw [List.getElem?_drop] at hi
  obtain ⟨A1, n1, c1, A2, n2, c2, h0, h1, hr⟩ := hc _ r hi
  refine ⟨A1, n1, c1, A2, n2, c2, ?_, ?_, hr⟩
  · rw [← h0]; congr 2; omega
  · rw [← h1]; congr 2; omega
/-- The cells of a slice of rows. -/
theorem RL.cells {w : World} {B : Nat} {A : Option Addr} {n : Nat} {L : List RowL} (h : RL w B A n L) (hn : 0 < n) : ∃ g o news, A = some ⟨g, o, none⟩ ∧ g < B ∧ CellsOf w L news ∧ ∀ j u, news[j]? = some u → w.cell? ((⟨g, o, none⟩ : Addr).add j) = some u := by
  obtain ⟨g, o, e, hB, hg, hc⟩ := h.2 hn
  have hl := h.1
  have key : ∀ j, j < L.length * 2 → ∃ u, w.cell? ⟨g, o + j, none⟩ = some u := by
    intro j hj
    obtain ⟨A1, n1, c1, A2, n2, c2, h0, h1, _⟩ := hc (j / 2) L[j / 2] (List.getElem?_eq_getElem (by omega))
    rcases Nat.mod_two_eq_zero_or_one j with hm | hm
    · exact ⟨_, by rw [← h0]; congr 2; omega⟩
    · exact ⟨_, by rw [← h1]; congr 2; omega⟩
  refine ⟨g, o, (List.range (L.length * 2)).map fun j => (w.cell? ⟨g, o + j, none⟩).getD (.bool false), e, hB, ⟨by simp, fun i r hi => ?_⟩, fun j u hu => ?_⟩
  · obtain ⟨A1, n1, c1, A2, n2, c2, h0, h1, hr⟩ := hc i r hi
    have hlt := (List.getElem?_eq_some_iff.1 hi).1
    refine ⟨A1, n1, c1, A2, n2, c2, ?_, ?_, hr⟩
    · rw [List.getElem?_map, List.getElem?_range (by omega)]; simp [h0]
    · rw [List.getElem?_map, List.getElem?_range (by omega)]
      have h1' : w.cell? ⟨g, o + (i * 2 + 1), none⟩ = some (.slice A2 n2 c2) := h1
      simp [h1']
  · rw [List.getElem?_map] at hu
    by_cases hj : j < L.length * 2
    · rw [List.getElem?_range hj] at hu
      obtain ⟨x, hx⟩ := key j hj
      simp [hx] at hu
      subst hu
      rw [addr_add]
      exact hx
    · rw [List.getElem?_eq_none (by simp; omega)] at hu
      cases hu
/-- A list of rows of the call's own; its rows are read where it was begun. -/
def WasR (wx : World) (w : World) (base : Nat) (v : Value) (L : List RowL) : Prop := ∃ xs, w.ownsRow base 65 2 v L.length xs ∧ CellsOf wx L xs
theorem WasR.nil (wx w : World) (base : Nat) : WasR wx w base (.slice none 0 0) [] := ⟨[], World.ownsRow_nil _ _ _ _, CellsOf.nil _⟩
theorem WasR.rl {wx w : World} {v : Value} {L : List RowL} (h : WasR wx w wx.heap.size v L) (hb : Below wx.heap.size wx w) : ∃ A c, v = .slice A L.length c ∧ RL w w.heap.size A L.length L ∧ L.length ≤ c ∧ c ≤ 9223372036854775807 := by
  obtain ⟨xs, h1, h2⟩ := h
  rcases h1.2 with ⟨rfl, h0⟩ | ⟨g, cap, cur, rfl, hg, hh, hn, hm, hs, ht⟩
  · have : L = [] := List.eq_nil_of_length_eq_zero h0
    subst this
    exact ⟨none, 0, rfl, RL.nil, by simp, by omega⟩
  · have hB : Blk w g 65 cur := hh
    refine ⟨_, cap, rfl, ⟨rfl, fun h0 => ⟨g, 0, rfl, hB.lt, hB.lt, fun i r hi => ?_⟩⟩, hn, by unfold maxLen at hm; exact hm⟩
    obtain ⟨A1, n1, c1, A2, n2, c2, e0, e1, hr⟩ := h2.2 i r hi
    have hlt := (List.getElem?_eq_some_iff.1 hi).1
    refine ⟨A1, n1, c1, A2, n2, c2, ?_, ?_, hr.step hb⟩
    · rw [hB.cell, ← Array.getElem?_toList, ← e0, ← ht, List.getElem?_take, if_pos (by omega)]; congr 1; omega
    · rw [hB.cell, ← Array.getElem?_toList, ← e1, ← ht, List.getElem?_take, if_pos (by omega)]; congr 1; omega
theorem row03_info : (Try.prog.info? 65).map (fun i => (i.zero, i.size, i.bytes)) = some (some (.agg #[.slice none 0 0, .slice none 0 0]), 2, 48) := by kernel_rfl
/-- 'out = append(out, l...)' for a slice of rows. -/
theorem push_rows {ops : Array Oper} {rest : List Oper} {o : Oper} {a : Act} {Q : Exit → Act → World → Prop} {wx w : World} (hgd : o.guard = none) (s x : Operand)
    (ho : o.op = .call { callee := .builtin .append, args := #[s, x], argTypes := #[51, 51] })
    (v : Value) (L M : List RowL) (k m c g off : Nat) (news : List Value) (hs : a.eval s = v) (hwas : WasR wx w wx.heap.size v L) (hk : L.length = k) (hm : M.length = m) (hM : CellsOf wx M news)
    (hx : a.eval x = .slice (some ⟨g, off, none⟩) m c) (hc : ∀ j u, news[j]? = some u → w.cell? ((⟨g, off, none⟩ : Addr).add j) = some u) (hn : k + m ≤ 65536) (hbase : wx.heap.size ≤ w.heap.size)
    (h : ∀ v' w', WasR wx w' wx.heap.size v' (L ++ M) → Below wx.heap.size w w' → wpList Try.prog ops Q rest (a.put o.dst v') w') : wpList Try.prog ops Q (o :: rest) a w := by
  subst hk hm
  obtain ⟨i0, hi0, hz0, hz1, hz2⟩ := info_parts row03_info
  obtain ⟨xs, h1, h2⟩ := hwas
  refine wpList_append_own w hgd s x _ ho wx.heap.size 65 i0 _ 2 48 Try.underlying51 hi0 hz0 hz1 hz2 rfl (by omega) v L.length xs hs h1 ⟨g, off, none⟩ M.length c news hx hM.1 hc hM.oneCell (by unfold maxLen; omega) (by omega) hbase ?_
  intro v' w' h3 h4 _
  exact h v' w' ⟨_, by rw [List.length_append]; exact h3, h2.append hM⟩ (own_grown_below h1 h4 hbase)
end Go.Proofs.Ytaidbcppecoenaa

/- The document's Insert: where a row belongs. -/
namespace Go.Proofs.Ytaidbcppecoenaa
open Go.RowKit
set_option linter.unusedVariables false
set_option maxRecDepth 100000

/-- How many rows lead ahead of place j, from the front on. -/
def placeL : List RowL → Int → Nat
  | [], _ => 0
  | o :: L, j => if leadI o.1 < j then placeL L j + 1 else 0
theorem place_le (L : List RowL) (j : Int) : placeL L j ≤ L.length := by
  induction L with
  | nil => simp [placeL]
  | cons o L ih =>
    unfold placeL
    split
    · simp; omega
    · omega
theorem place_lt {L : List RowL} {j : Int} {i : Nat} (h : i < placeL L j) : leadI (L[i]?.getD ([], [])).1 < j := by
  induction L generalizing i with
  | nil => simp [placeL] at h
  | cons o L ih =>
    unfold placeL at h
    split at h
    · rename_i h0
      cases i with
      | zero => simpa using h0
      | succ i => simpa using ih (by omega)
    · omega
theorem place_stop {L : List RowL} {j : Int} (h : placeL L j < L.length) : ¬ leadI (L[placeL L j]?.getD ([], [])).1 < j := by
  induction L with
  | nil => simp at h
  | cons o L ih =>
    unfold placeL at h ⊢
    split
    · rename_i h0
      rw [if_pos h0] at h
      simpa using ih (by simp at h; omega)
    · rename_i h0
      simpa using h0
theorem place_more {L : List RowL} {j : Int} {i : Nat} (hi : i ≤ placeL L j) (h1 : i < L.length) (h2 : leadI (L[i]?.getD ([], [])).1 < j) : i + 1 ≤ placeL L j := by
  rcases Nat.lt_or_ge i (placeL L j) with h | h
  · omega
  · have e : i = placeL L j := by omega
    subst e
    exact absurd h2 (place_stop h1)
theorem place_end {L : List RowL} {j : Int} {i : Nat} (hi : i ≤ placeL L j) (h : ¬ (i < L.length ∧ leadI (L[i]?.getD ([], [])).1 < j)) : i = placeL L j := by
  rcases Nat.lt_or_ge i (placeL L j) with h1 | h1
  · exact absurd ⟨by have := place_le L j; omega, place_lt h1⟩ h
  · omega
/-- A row more, by the place where it leads. -/
def insL (L : List RowL) (r : RowL) : List RowL :=
  if leadI (normR (restL L r)).1 < 0 then L else L.take (placeL L (leadI (normR (restL L r)).1)) ++ [normR (restL L r)] ++ L.drop (placeL L (leadI (normR (restL L r)).1))
theorem ins_len (L : List RowL) (r : RowL) : (insL L r).length ≤ L.length + 1 := by
  unfold insL
  split
  · omega
  · have := place_le L (leadI (normR (restL L r)).1)
    simp
    omega
theorem ins_suit {n m : Nat} {L : List RowL} {r : RowL} (h : Suit n m L) (h1 : r.1.length = n) (h2 : r.2.length = m) : Suit n m (insL L r) := by
  unfold insL
  split
  · exact h
  · rename_i h0
    intro o ho
    simp only [List.mem_append, List.mem_singleton] at ho
    rcases ho with (ho | ho) | ho
    · exact h o (List.mem_of_mem_take ho)
    · subst ho
      obtain ⟨e1, e2⟩ := rest_len h r h1 h2
      obtain ⟨e3, e4⟩ := norm_len (restL L r)
      exact ⟨by omega, by omega, by omega⟩
    · exact h o (List.mem_of_mem_drop ho)
end Go.Proofs.Ytaidbcppecoenaa

