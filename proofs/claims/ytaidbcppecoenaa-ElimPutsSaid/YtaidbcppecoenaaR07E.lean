import Derived.Test.YtaidbcppecoenaaR07A
import Derived.Deep.RegionWith
import Derived.Deep.QuietTactic
import Derived.BigQuiet
/- The document's Insert. -/
namespace Go.Proofs.Ytaidbcppecoenaa
open Go.RowKit
set_option linter.unusedVariables false
set_option maxRecDepth 100000

/-- 'out = append(out, l...)' for any slice of rows. -/
theorem push_rl {ops : Array Oper} {rest : List Oper} {o : Oper} {a : Act} {Q : Exit → Act → World → Prop} {wx w : World} (hgd : o.guard = none) (s x : Operand)
    (ho : o.op = .call { callee := .builtin .append, args := #[s, x], argTypes := #[51, 51] })
    (v : Value) (L M : List RowL) (k m c : Nat) (A : Option Addr) (hs : a.eval s = v) (hwas : WasR wx w wx.heap.size v L) (hk : L.length = k) (hM : RL wx wx.heap.size A m M) (hb : Below wx.heap.size wx w)
    (hx : a.eval x = .slice A m c) (hn : k + m ≤ 65536)
    (h : ∀ v' w', WasR wx w' wx.heap.size v' (L ++ M) → Below wx.heap.size wx w' → wpList Try.prog ops Q rest (a.put o.dst v') w') : wpList Try.prog ops Q (o :: rest) a w := by
  rcases Nat.eq_zero_or_pos m with h0 | h0
  · subst h0
    have hM0 : M = [] := List.eq_nil_of_length_eq_zero hM.1.symm
    subst hM0
    obtain ⟨xs, h1, h2⟩ := hwas
    obtain ⟨i0, hi0, hz0, hz1, hz2⟩ := info_parts row03_info
    subst hk
    cases A with
    | none =>
      refine append_nil hgd s x _ ho wx.heap.size 65 i0 2 Try.underlying51 hi0 v L.length xs hs h1 c hx ?_
      exact h v w ⟨xs, by simpa using h1, by simpa using h2⟩ hb
    | some ad =>
      refine wpList_append_own w hgd s x _ ho wx.heap.size 65 i0 _ 2 48 Try.underlying51 hi0 hz0 hz1 hz2 rfl (by omega) v L.length xs hs h1 ad 0 c [] hx rfl (fun j u hu => by simp at hu) (fun u hu => by simp at hu) (by unfold maxLen; omega) (by omega) hb.size ?_
      intro v' w' h3 h4 _
      exact h v' w' ⟨xs, by simpa using h3, by simpa using h2⟩ (hb.trans (own_grown_below h1 h4 hb.size))
  · obtain ⟨g, o', news, rfl, hg, hc, hnews⟩ := hM.cells h0
    exact push_rows hgd s x ho v L M k m c g o' news hs hwas hk hM.1.symm hc hx (fun j u hu => (hb.cell (p := (⟨g, o', none⟩ : Addr).add j) (by rw [addr_add]; exact hg)).trans (hnews j u hu)) hn hb.size fun v' w' h3 h4 => h v' w' h3 (hb.trans h4)
theorem RL.dropA {w : World} {B n k : Nat} {A A' : Option Addr} {L : List RowL} (h : RL w B A n L) (hk : n = k) : RL w B A' 0 (L.drop k) := by
  refine ⟨by rw [List.length_drop]; have := h.1; omega, fun h0 => absurd h0 (by omega)⟩
theorem built2 (w : World) (x y : Value) (T : TypeId) : ∀ j u, [x, y][j]? = some u → (w.alloc (.cells #[x, y] T)).cell? ((⟨w.heap.size, 0, none⟩ : Addr).add j) = some u := by
  intro j u hu
  have hB := Blk.new w T #[x, y]
  rw [addr_add]
  match j, hu with
  | 0, hu => simp at hu; subst hu; exact (cells2 hB).1
  | 1, hu => simp at hu; subst hu; exact (cells2 hB).2.1
theorem WasR.alloc {wx w : World} {B : Nat} {v : Value} {L : List RowL} (h : WasR wx w B v L) (obj : Obj) : WasR wx (w.alloc obj) B v L := by
  obtain ⟨xs, h1, h2⟩ := h
  exact ⟨xs, h1.alloc _, h2⟩
/-- Rows of the call's own, read where they stand now. -/
theorem WasR.now {wx w : World} {B : Nat} {v : Value} {L : List RowL} (h : WasR wx w B v L) (hb : Below wx.heap.size wx w) : WasR w w B v L := by
  obtain ⟨xs, h1, h2, h3⟩ := h
  refine ⟨xs, h1, h2, fun i r hi => ?_⟩
  obtain ⟨A1, n1, c1, A2, n2, c2, e0, e1, hr⟩ := h3 i r hi
  exact ⟨A1, n1, c1, A2, n2, c2, e0, e1, hr.step hb⟩
/-- A list of rows, handed back: the one that was handed in, or one of the call's own. -/
def InsertsR (A0 : Option Addr) (c0 : Nat) (L0 L : List RowL) (w : World) (e : Ending) (w' : World) : Prop := ∃ A c, e = .returned (.slice A L.length c) ∧ RL w' w'.heap.size A L.length L ∧ L.length ≤ c ∧ c ≤ 9223372036854775807 ∧ (A = A0 ∧ c = c0 ∧ L = L0 ∨ ∃ B, w.heap.size ≤ B ∧ WasR w' w' B (.slice A L.length c) L) ∧ Below w.heap.size w w'
set_option maxHeartbeats 600000 in
theorem refinsert_own {w : World} {n m k c : Nat} {A : Option Addr} {L : List RowL} {r : RowL} {x : Value} (hL : RL w w.heap.size A k L) (hx : RowIs w r x) (hs : Suit n m L) (h1 : r.1.length = n) (h2 : r.2.length = m) (hk : k ≤ 60000) (hkc : k ≤ c) (hcc : c ≤ 9223372036854775807) :
    Calls Try.prog 51 #[.slice A k c, x] w (InsertsR A c L (insL L r) w) := by
  obtain ⟨A1, n1, c1, A2, n2, c2, rfl, p1, p2, l1, l2⟩ := hx
  have hb0 := balloc w (.cells #[.slice A1 n1 c1, .slice A2 n2 c2] 65)
  have b3 := Blk.new w 65 #[.slice A1 n1 c1, .slice A2 n2 c2]
  have r3 : RowIs _ r _ := (RowIs.mk (c := c1) (c2 := c2) p1 p2 l1 l2).step hb0
  have hLL := hL.step hb0
  have Hl := Lib.hid hL.1
  have Hs := Lib.hid hs
  have H1 := Lib.hid h1
  have H2 := Lib.hid h2
  clear hL p1 p2 hs h1 h2
  go_enter Try.func51, Try.ntmps51
  go_wp2_with fail
  generalize w.alloc (.cells #[.slice A1 n1 c1, .slice A2 n2 c2] 65) = V at *
  have hz0 := hb0.size
  have hlt := b3.lt
  refine (refrest_any (hLL.more (by omega)) r3 Hs.out H1.out H2.out (by omega)).mono ?_
  rintro e w1 ⟨v1, rfl, hr1, kb1⟩
  go_wp2_with fail
  refine (c_refnorm hr1).mono ?_
  rintro e w2 ⟨v2, rfl, ⟨A5, n5, c5, A6, n6, c6, rfl, q5, q6, l5, l6⟩, kb2⟩
  have k2 := bstep kb1 kb2
  replace b3 := b3.below k2 b3.lt
  have hL2 := hLL.step k2
  have hb2 := bstep hb0 k2
  clear hLL kb1 kb2 k2 hr1 r3 hb0
  obtain ⟨hc0, hc1, hf0, hf1⟩ := cells2 b3
  have hI : Hid (insL L r = if leadI (normR (restL L r)).1 < 0 then L else L.take (placeL L (leadI (normR (restL L r)).1)) ++ [normR (restL L r)] ++ L.drop (placeL L (leadI (normR (restL L r)).1))) := Lib.hid rfl
  generalize normR (restL L r) = y at *
  have r7 : RowIs w2 y (.agg #[.slice A5 n5 c5, .slice A6 n6 c6]) := RowIs.mk q5 q6 l5 l6
  have hH := Holds.turn b3 NoBytes.two r7
  have HW : Below w.heap.size w ((w2.setCell ⟨w.heap.size, 0, none⟩ (.slice A5 n5 c5)).setCell ⟨w.heap.size, 1, none⟩ (.slice A6 n6 c6)) := (hb2.setCell (Nat.le_refl _) _).setCell (Nat.le_refl _) _
  have hL3 : RL ((w2.setCell ⟨w.heap.size, 0, none⟩ (.slice A5 n5 c5)).setCell ⟨w.heap.size, 1, none⟩ (.slice A6 n6 c6)) w.heap.size A k L := hL2.far2 b3 NoBytes.two (Nat.le_refl _)
  have q5' := q5.set2 (x := .slice A5 n5 c5) (y := .slice A6 n6 c6) b3 NoBytes.two
  have hd0 : ((w2.setCell ⟨w.heap.size, 0, none⟩ (.slice A5 n5 c5)).setCell ⟨w.heap.size, 1, none⟩ (.slice A6 n6 c6)).cell? ⟨w.heap.size, 0, none⟩ = some (.slice A5 n5 c5) := (cells2 b3.two).1
  clear hL2 hb2 b3 r7 q5 q6
  go_wp2_with fail
  refine (reflead_any q5' (by omega)).mono ?_
  rintro e w' ⟨rfl, rfl⟩
  by_cases hneg : leadI y.1 < 0
  · have e1 : insL L r = L := by rw [hI.out, if_pos hneg]
    have t : decide (leadI y.1 < 0) = true := by simpa using hneg
    have hkk := Hl.out
    subst hkk
    clear hc0 hc1 hf0 hf1 hd0
    go_wp2_with fail
    rw [e1]
    go_ret
    exact ⟨A, c, rfl, hL3.more HW.size, hkc, hcc, .inl ⟨rfl, rfl, rfl⟩, HW⟩
  · have t : decide (leadI y.1 < 0) = false := by simpa using hneg
    clear hc0 hc1 hf0 hf1 hd0
    go_wp2_with fail
    generalize hV : (w2.setCell ⟨w.heap.size, 0, none⟩ (.slice A5 n5 c5)).setCell ⟨w.heap.size, 1, none⟩ (.slice A6 n6 c6) = V2 at *
    clear hV
    have HP : Hid (insL L r = L.take (placeL L (leadI y.1)) ++ y :: L.drop (placeL L (leadI y.1))) := Lib.hid (by rw [hI.out, if_neg (by omega), List.append_assoc, List.singleton_append])
    have Hneg := Lib.hid hneg
    clear hI q5' hneg t
    go_loopw [5] (fun v wr => ∃ i : Nat, i ≤ placeL L (leadI y.1) ∧ v = .int .i64 (i : Int) ∧ RL wr w.heap.size A k L ∧ Holds wr w.heap.size 65 y ∧ Below w.heap.size w wr) (fun v _ => k - (intOf v).toNat)
    case atStart => exact ⟨0, by omega, rfl, hL3, hH, HW⟩
    case round =>
      clear HW hH hL3
      obtain ⟨i, hi, rfl, hL, hH, hb⟩ := hrel
      have hpl := place_le L (leadI y.1)
      by_cases hlt2 : i < k
      · obtain ⟨g, o, A7, n7, c7, A8, n8, c8, rfl, e0, e1, r5⟩ := hL.at_ hlt2
        obtain ⟨q7, q8, l7, l8⟩ := r5.parts
        obtain ⟨A9, n9, c9, A10, n10, c10, b3, r3⟩ := hH
        obtain ⟨hc0, hc1, hf0, hf1⟩ := cells2 b3
        obtain ⟨q9, q10, l9, l10⟩ := r3.parts
        have t : decide ((i : Int) < (k : Int)) = true := by simp; omega
        have HS : Hid (∀ w', Below wr.heap.size wr w' → (Below wr.heap.size wr w' ∧ w'.cell? ⟨w.heap.size, 0, none⟩ = some (.slice A9 n9 c9) ∧ w'.cell? ⟨g, o + i * 2, none⟩ = some (.slice A7 n7 c7))) := Lib.hid fun w' hb' => by
          obtain ⟨z1, _⟩ := cells2 (b3.below hb' b3.lt)
          exact ⟨hb', z1, (hb'.cell (p := ⟨g, o + i * 2, none⟩) (cell_lt e0)).trans e0⟩
        clear hc0 hc1 hf0 hf1 e1 e0
        go_wp2_with fail
        go_region_held3 (fun w' => Below wr.heap.size wr w' ∧ w'.cell? ⟨w.heap.size, 0, none⟩ = some (.slice A9 n9 c9) ∧ w'.cell? ⟨g, o + i * 2, none⟩ = some (.slice A7 n7 c7))
          ((refine HS.out _ ?_; first | exact (Below.refl _ _).drew | assumption | go_grown))
          (first
            | (go_at_call 67; (with_reducible refine (reflead_any (c := c7) (q7.step (And.left ‹Below wr.heap.size wr _ ∧ _›)) (by omega)).mono ?_); rintro e w' ⟨rfl, rfl⟩)
            | (go_at_call 67; (with_reducible refine (reflead_any (c := c9) (q9.step (And.left ‹Below wr.heap.size wr _ ∧ _›)) (by omega)).mono ?_); rintro e w' ⟨rfl, rfl⟩))
        by_cases hlead : leadI (L[i]?.getD ([], [])).1 < leadI y.1
        · have t2 : decide (leadI (L[i]?.getD ([], [])).1 < leadI y.1) = true := by simpa using hlead
          have Hik := Lib.hid (place_more hi (by have := Hl.out; omega) hlead)
          have hX : Below wr.heap.size wr wr.drew := (Below.refl _ _).drew
          replace hL := hL.step hX
          replace b3 := b3.below hX b3.lt
          replace r3 := r3.step hX
          replace hb := bstep hb hX
          have hz := hb.size
          clear hX q7 q8 q9 q10 r5 HS
          generalize wr.drew = wx at *
          go_wp2_with fail
          go_roundw
          case rel => exact ⟨i + 1, Hik.out, by go_num, hL, ⟨_, _, _, _, _, _, b3, r3⟩, hb⟩
          case measure => simp [intOf]; omega
        · have t2 : decide (leadI (L[i]?.getD ([], [])).1 < leadI y.1) = false := by simpa using hlead
          have Hik := Lib.hid (place_end hi fun h => hlead h.2)
          have hX : Below wr.heap.size wr wr.drew := (Below.refl _ _).drew
          replace hL := hL.step hX
          replace b3 := b3.below hX b3.lt
          replace r3 := r3.step hX
          replace hb := bstep hb hX
          have hz := hb.size
          clear hX q7 q8 q9 q10 r5 HS
          generalize wr.drew = wx at *
          go_wp2_with (at_builtin; refine push_rl (wx := wx) rfl (.tmp 34) (.tmp 37) rfl (.slice none 0 0) [] (L.take i) 0 i c (some ⟨g, o, none⟩) rfl (WasR.nil _ _ _) rfl ((hL.take (by omega)).more hz) (Below.refl _ _) rfl (by omega) ?_)
          intro v3 w3 hw3 hb3
          obtain ⟨hc0, hc1, hf0, hf1⟩ := cells2 (b3.below hb3 b3.lt)
          have hz3 := hb3.size
          go_wp2_with (at_builtin; refine push_rows (wx := wx) rfl (.tmp 39) (.tmp 41) rfl _ (L.take i) [y] i 1 1 w3.heap.size 0 [.slice A9 n9 c9, .slice A10 n10 c10] rfl (hw3.alloc _) (by rw [List.length_take]; omega) rfl (CellsOf.one r3) rfl ?dc (by omega) (by simp; omega) ?_)
          case dc => exact built2 _ _ _ _
          intro v4 w4 hw4 hb4
          have hb5 := (hb3.alloc hz3 (.cells #[.slice A9 n9 c9, .slice A10 n10 c10] 65)).trans hb4
          clear hb3 hb4 hw3 hc0 hc1 hf0 hf1
          go_wp2_with (at_builtin; refine push_rl (wx := wx) rfl (.tmp 43) (.tmp 46) rfl _ (L.take i ++ [y]) (L.drop i) (i + 1) (k - i) (c - i) (some ⟨g, o + i * 2, none⟩) rfl hw4 (by rw [List.length_append, List.length_take, List.length_singleton]; omega) (hL.drop.more hz) hb5 rfl (by omega) ?_)
          intro v5 w5 hw5 hb6
          have hw6 := hw5
          rw [Hik.out, ← HP.out] at hw6
          obtain ⟨A11, c11, rfl, hr11, hk11, hk12⟩ := hw6.rl hb6
          go_wp2_with fail
          go_ret
          exact ⟨A11, c11, rfl, hr11, hk11, hk12, .inr ⟨wx.heap.size, hb.size, hw6.now hb6⟩, bstep hb hb6⟩
      · have t : decide ((i : Int) < (k : Int)) = false := by simp; omega
        have Hik := Lib.hid (place_end hi fun h => hlt2 (by have := Hl.out; omega))
        obtain ⟨A9, n9, c9, A10, n10, c10, b3, r3⟩ := hH
        have hz := hb.size
        have hik1 : i ≤ k := by have := Hl.out; omega
        have hik2 : k ≤ i := by omega
        cases A with
        | none =>
          go_wp2_with fail
          go_quiet (fail)
          have hX : Below wr.heap.size wr (wr.drewN nq) := below_drewN (Below.refl _ _) nq
          replace hL := hL.step hX
          replace b3 := b3.below hX b3.lt
          replace r3 := r3.step hX
          replace hb := bstep hb hX
          have hz := hb.size
          clear hX
          generalize wr.drewN nq = wx at *
          go_wp2_with (at_builtin; refine push_rl (wx := wx) rfl (.tmp 34) (.tmp 37) rfl (.slice none 0 0) [] (L.take i) 0 i c none rfl (WasR.nil _ _ _) rfl ((hL.take (by omega)).more hz) (Below.refl _ _) rfl (by omega) ?_)
          intro v3 w3 hw3 hb3
          obtain ⟨hc0, hc1, hf0, hf1⟩ := cells2 (b3.below hb3 b3.lt)
          have hz3 := hb3.size
          go_wp2_with (at_builtin; refine push_rows (wx := wx) rfl (.tmp 39) (.tmp 41) rfl _ (L.take i) [y] i 1 1 w3.heap.size 0 [.slice A9 n9 c9, .slice A10 n10 c10] rfl (hw3.alloc _) (by rw [List.length_take]; omega) rfl (CellsOf.one r3) rfl ?dc (by omega) (by simp; omega) ?_)
          case dc => exact built2 _ _ _ _
          intro v4 w4 hw4 hb4
          have hb5 := (hb3.alloc hz3 (.cells #[.slice A9 n9 c9, .slice A10 n10 c10] 65)).trans hb4
          clear hb3 hb4 hw3 hc0 hc1 hf0 hf1
          go_wp2_with (at_builtin; refine push_rl (wx := wx) rfl (.tmp 43) (.tmp 46) rfl _ (L.take i ++ [y]) (L.drop i) (i + 1) 0 (c - i) none rfl hw4 (by rw [List.length_append, List.length_take, List.length_singleton]; omega) ((hL.dropA (k := i) (by omega)).more hz) hb5 rfl (by omega) ?_)
          intro v5 w5 hw5 hb6
          have hw6 := hw5
          rw [Hik.out, ← HP.out] at hw6
          obtain ⟨A11, c11, rfl, hr11, hk11, hk12⟩ := hw6.rl hb6
          go_wp2_with fail
          go_ret
          exact ⟨A11, c11, rfl, hr11, hk11, hk12, .inr ⟨wx.heap.size, hb.size, hw6.now hb6⟩, bstep hb hb6⟩
        | some ad =>
          go_wp2_with fail
          go_quiet (fail)
          have hX : Below wr.heap.size wr (wr.drewN nq) := below_drewN (Below.refl _ _) nq
          replace hL := hL.step hX
          replace b3 := b3.below hX b3.lt
          replace r3 := r3.step hX
          replace hb := bstep hb hX
          have hz := hb.size
          clear hX
          generalize wr.drewN nq = wx at *
          go_wp2_with (at_builtin; refine push_rl (wx := wx) rfl (.tmp 34) (.tmp 37) rfl (.slice none 0 0) [] (L.take i) 0 i c (some ad) rfl (WasR.nil _ _ _) rfl ((hL.take (by omega)).more hz) (Below.refl _ _) rfl (by omega) ?_)
          intro v3 w3 hw3 hb3
          obtain ⟨hc0, hc1, hf0, hf1⟩ := cells2 (b3.below hb3 b3.lt)
          have hz3 := hb3.size
          go_wp2_with (at_builtin; refine push_rows (wx := wx) rfl (.tmp 39) (.tmp 41) rfl _ (L.take i) [y] i 1 1 w3.heap.size 0 [.slice A9 n9 c9, .slice A10 n10 c10] rfl (hw3.alloc _) (by rw [List.length_take]; omega) rfl (CellsOf.one r3) rfl ?dc (by omega) (by simp; omega) ?_)
          case dc => exact built2 _ _ _ _
          intro v4 w4 hw4 hb4
          have hb5 := (hb3.alloc hz3 (.cells #[.slice A9 n9 c9, .slice A10 n10 c10] 65)).trans hb4
          clear hb3 hb4 hw3 hc0 hc1 hf0 hf1
          by_cases hci : c = i
          · go_wp2_with (at_builtin; refine push_rl (wx := wx) rfl (.tmp 43) (.tmp 46) rfl _ (L.take i ++ [y]) (L.drop i) (i + 1) 0 _ _ rfl hw4 (by rw [List.length_append, List.length_take, List.length_singleton]; omega) ((hL.dropA (k := i) (by omega)).more hz) hb5 rfl (by omega) ?_)
            intro v5 w5 hw5 hb6
            have hw6 := hw5
            rw [Hik.out, ← HP.out] at hw6
            obtain ⟨A11, c11, rfl, hr11, hk11, hk12⟩ := hw6.rl hb6
            go_wp2_with fail
            go_ret
            exact ⟨A11, c11, rfl, hr11, hk11, hk12, .inr ⟨wx.heap.size, hb.size, hw6.now hb6⟩, bstep hb hb6⟩
          · go_wp2_with (at_builtin; refine push_rl (wx := wx) rfl (.tmp 43) (.tmp 46) rfl _ (L.take i ++ [y]) (L.drop i) (i + 1) 0 _ _ rfl hw4 (by rw [List.length_append, List.length_take, List.length_singleton]; omega) ((hL.dropA (k := i) (by omega)).more hz) hb5 rfl (by omega) ?_)
            intro v5 w5 hw5 hb6
            have hw6 := hw5
            rw [Hik.out, ← HP.out] at hw6
            obtain ⟨A11, c11, rfl, hr11, hk11, hk12⟩ := hw6.rl hb6
            go_wp2_with fail
            go_ret
            exact ⟨A11, c11, rfl, hr11, hk11, hk12, .inr ⟨wx.heap.size, hb.size, hw6.now hb6⟩, bstep hb hb6⟩
end Go.Proofs.Ytaidbcppecoenaa

