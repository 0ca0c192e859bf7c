import Derived.Test.YtaidbcppecoenaaSysO
import Derived.Test.YtaidbcppecoenaaR07E
import Derived.Deep.RegionWith
/- The document's system: own lists of rows, and one of their rows set. -/
namespace Go.Proofs.Ytaidbcppecoenaa
open Go.RowKit
set_option linter.unusedVariables false
set_option maxRecDepth 100000

theorem CellsOf.step {w w' : World} {L : List RowL} {xs : List Value} (h : CellsOf w L xs) (hb : Below w.heap.size w w') : CellsOf w' L xs := ⟨h.1, fun i r hi => by
  obtain ⟨A1, n1, c1, A2, n2, c2, e0, e1, hr⟩ := h.2 i r hi
  exact ⟨A1, n1, c1, A2, n2, c2, e0, e1, hr.step hb⟩⟩
/-- A list of rows of the call's own, read as it stands. -/
def OwnR (w : World) (B : Nat) (v : Value) (L : List RowL) : Prop := WasR w w B v L
theorem OwnR.nil (w : World) (B : Nat) : OwnR w B (.slice none 0 0) [] := WasR.nil _ _ _
theorem OwnR.step {w w' : World} {B : Nat} {v : Value} {L : List RowL} (h : OwnR w B v L) (hb : Below w.heap.size w w') : OwnR w' B v L := by
  obtain ⟨xs, h1, h2⟩ := h
  have hg := grown_of_below hb none
  refine ⟨xs, h1.kept hg ?_, h2.step hb⟩
  cases hv : v.ownBlock with
  | none => exact .inl rfl
  | some g => exact .inr (by simp)
theorem OwnR.mono {w : World} {B B' : Nat} {v : Value} {L : List RowL} (h : OwnR w B v L) (hb : B' ≤ B) : OwnR w B' v L := by
  obtain ⟨xs, h1, h2⟩ := h
  exact ⟨xs, own_mono h1 hb, h2⟩
theorem OwnR.rl {w : World} {B : Nat} {v : Value} {L : List RowL} (h : OwnR w B v L) : ∃ A c, v = .slice A L.length c ∧ RL w w.heap.size A L.length L ∧ L.length ≤ c ∧ c ≤ 9223372036854775807 := by
  obtain ⟨xs, h1, h2⟩ := h
  rcases h1.2 with ⟨rfl, h0⟩ | ⟨g, cap, cur, rfl, hg, hh, hn, hm, hs, ht⟩
  · have : L = [] := List.eq_nil_of_length_eq_zero h0
    subst this
    exact ⟨none, 0, rfl, RL.nil, by simp, by omega⟩
  · have hB : Blk w g 65 cur := hh
    refine ⟨_, cap, rfl, ⟨rfl, fun h0 => ⟨g, 0, rfl, hB.lt, hB.lt, fun i r hi => ?_⟩⟩, hn, by unfold maxLen at hm; exact hm⟩
    obtain ⟨A1, n1, c1, A2, n2, c2, e0, e1, hr⟩ := h2.2 i r hi
    have hlt := (List.getElem?_eq_some_iff.1 hi).1
    refine ⟨A1, n1, c1, A2, n2, c2, ?_, ?_, hr⟩
    · rw [hB.cell, ← Array.getElem?_toList, ← e0, ← ht, List.getElem?_take, if_pos (by omega)]; congr 1; omega
    · rw [hB.cell, ← Array.getElem?_toList, ← e1, ← ht, List.getElem?_take, if_pos (by omega)]; congr 1; omega
/-- One row of it. -/
theorem OwnR.at_ {w : World} {B i : Nat} {v : Value} {L : List RowL} (h : OwnR w B v L) (hi : i < L.length) : ∃ g c A1 n1 c1 A2 n2 c2, v = .slice (some ⟨g, 0, none⟩) L.length c ∧ B ≤ g ∧ g < w.heap.size ∧
    w.cell? ⟨g, i * 2, none⟩ = some (.slice A1 n1 c1) ∧ w.cell? ⟨g, i * 2 + 1, none⟩ = some (.slice A2 n2 c2) ∧ RowIs w (L[i]?.getD ([], [])) (.agg #[.slice A1 n1 c1, .slice A2 n2 c2]) ∧ w.frozen? ⟨g, i * 2, none⟩ = false ∧ w.frozen? ⟨g, i * 2 + 1, none⟩ = false := by
  obtain ⟨xs, h1, h2⟩ := h
  rcases h1.2 with ⟨rfl, h0⟩ | ⟨g, cap, cur, rfl, hg, hh, hn, hm, hs, ht⟩
  · omega
  · have hB : Blk w g 65 cur := hh
    obtain ⟨A1, n1, c1, A2, n2, c2, e0, e1, hr⟩ := h2.2 i L[i] (List.getElem?_eq_getElem hi)
    rw [List.getElem?_eq_getElem hi]
    refine ⟨g, cap, A1, n1, c1, A2, n2, c2, rfl, hg, hB.lt, ?_, ?_, hr, hB.frozen _, hB.frozen _⟩
    · rw [hB.cell, ← Array.getElem?_toList, ← e0, ← ht, List.getElem?_take, if_pos (by omega)]
    · rw [hB.cell, ← Array.getElem?_toList, ← e1, ← ht, List.getElem?_take, if_pos (by omega)]
/-- A store over what is no byte changes no row of bytes. -/
theorem Rd.over {w : World} {B n : Nat} {A : Option Addr} {us : List UInt8} {p : Addr} {x y : Value} (h : Rd w B A n us) (hp : w.cell? p = some y) (hy : ∀ u, y ≠ .int .u8 (bv u)) : Rd (w.setCell p x) B A n us :=
  ⟨h.1, fun hn => by
    obtain ⟨b, off, e, hb, hc⟩ := h.2 hn
    refine ⟨b, off, e, hb, fun j u hu => ?_⟩
    have h1 := hc j u hu
    rw [World.cell?_setCell_other w p ⟨b, off + j, none⟩ x fun e => ?_]
    · exact h1
    · rw [← e, hp] at h1
      injection h1 with h1
      exact hy u h1⟩
theorem RowIs.over {w : World} {r : RowL} {z : Value} {p : Addr} {x y : Value} (h : RowIs w r z) (hp : w.cell? p = some y) (hy : ∀ u, y ≠ .int .u8 (bv u)) : RowIs (w.setCell p x) r z := by
  obtain ⟨A, n, c, A2, n2, c2, rfl, h1, h2, l1, l2⟩ := h
  have hs : (w.setCell p x).heap.size = w.heap.size := by simp [World.setCell]
  exact RowIs.mk ((h1.over hp hy).more (by rw [hs]; exact Nat.le_refl _)) ((h2.over hp hy).more (by rw [hs]; exact Nat.le_refl _)) l1 l2
theorem slice_noByte (A : Option Addr) (n c : Nat) (u : UInt8) : Value.slice A n c ≠ .int .u8 (bv u) := by intro h; cases h
theorem OwnR.set {w : World} {B i n1 c1 n2 c2 g n c : Nat} {A1 A2 : Option Addr} {L : List RowL} {r : RowL} (h : OwnR w B (.slice (some ⟨g, 0, none⟩) n c) L) (hi : i < L.length) (hr : RowIs w r (.agg #[.slice A1 n1 c1, .slice A2 n2 c2])) :
    OwnR ((w.setCell ⟨g, i * 2, none⟩ (.slice A1 n1 c1)).setCell ⟨g, i * 2 + 1, none⟩ (.slice A2 n2 c2)) B (.slice (some ⟨g, 0, none⟩) n c) (L.set i r) := by
  obtain ⟨g', c', B1, m1, d1, B2, m2, d2, ev, hg, hlt, k0, k1, hri, f0, f1⟩ := h.at_ hi
  injection ev with e1 e2 e3
  injection e1 with e1
  injection e1 with e1
  subst e1 e2 e3
  obtain ⟨xs, h1, h2⟩ := h
  have k1' : (w.setCell ⟨g, i * 2, none⟩ (.slice A1 n1 c1)).cell? ⟨g, i * 2 + 1, none⟩ = some (.slice B2 m2 d2) := by
    rw [World.cell?_setCell_other _ _ _ _ (by simp)]; exact k1
  have keep : ∀ {q : RowL} {z : Value}, RowIs w q z → RowIs ((w.setCell ⟨g, i * 2, none⟩ (.slice A1 n1 c1)).setCell ⟨g, i * 2 + 1, none⟩ (.slice A2 n2 c2)) q z := fun hq => (hq.over k0 (slice_noByte _ _ _)).over k1' (slice_noByte _ _ _)
  rcases h1.2 with ⟨e, _⟩ | ⟨g2, cap, cur, e, hg2, hh, hn, hm, hs, ht⟩
  · cases e
  · injection e with e1 e2 e3
    injection e1 with e1
    injection e1 with e1
    subst e1 e3
    have hB : Blk w g 65 cur := hh
    have hB2 := (hB.set (i * 2) (.slice A1 n1 c1)).set (i * 2 + 1) (.slice A2 n2 c2)
    have hxl : xs.length = L.length * 2 := h2.1
    refine ⟨(xs.set (i * 2) (.slice A1 n1 c1)).set (i * 2 + 1) (.slice A2 n2 c2), ⟨by simp [hxl], .inr ⟨g, c, _, by rw [List.length_set], hg, hB2, by simpa using hn, hm, by simpa using hs, ?_⟩⟩, ⟨by simp [hxl], fun j q hj => ?_⟩⟩
    · rw [List.length_set]
      simp only [Array.toList_setIfInBounds, List.take_set]
      rw [ht]
    · have hjl : j < L.length := by have := (List.getElem?_eq_some_iff.1 hj).1; simpa using this
      by_cases hji : j = i
      · subst hji
        rw [List.getElem?_set_self hi] at hj
        injection hj with hj
        subst hj
        refine ⟨A1, n1, c1, A2, n2, c2, ?_, ?_, keep hr⟩
        · rw [List.getElem?_set_ne (by omega), List.getElem?_set_self (by omega)]
        · rw [List.getElem?_set_self (by simp; omega)]
      · rw [List.getElem?_set_ne (fun e => hji e.symm)] at hj
        obtain ⟨C1, l1, s1, C2, l2, s2, e0, e1, hq⟩ := h2.2 j q hj
        refine ⟨C1, l1, s1, C2, l2, s2, ?_, ?_, keep hq⟩
        · rw [List.getElem?_set_ne (by omega), List.getElem?_set_ne (by omega)]; exact e0
        · rw [List.getElem?_set_ne (by omega), List.getElem?_set_ne (by omega)]; exact e1
theorem OwnR.other {w : World} {B h i : Nat} {v x y : Value} {L : List RowL} (hL : OwnR w B v L) (hh : h < B) (hp : w.cell? ⟨h, i, none⟩ = some y) (hy : ∀ u, y ≠ .int .u8 (bv u)) : OwnR (w.setCell ⟨h, i, none⟩ x) B v L := by
  obtain ⟨xs, h1, h2, h3⟩ := hL
  refine ⟨xs, ?_, h2, fun j r hj => ?_⟩
  · refine ⟨h1.1, ?_⟩
    rcases h1.2 with h4 | ⟨g, cap, cur, e, hg, hhp, h5⟩
    · exact .inl h4
    · exact .inr ⟨g, cap, cur, e, hg, (Below.heap_setCell w ⟨h, i, none⟩ x g (by simp; omega)).trans hhp, h5⟩
  · obtain ⟨A1, n1, c1, A2, n2, c2, e0, e1, hr⟩ := h3 j r hj
    exact ⟨A1, n1, c1, A2, n2, c2, e0, e1, hr.over hp hy⟩
theorem insertR_own {w : World} {n m B : Nat} {v : Value} {L : List RowL} {r : RowL} {x : Value} (hv : OwnR w B v L) (hBw : B ≤ w.heap.size) (hx : RowIs w r x) (hs : Suit n m L) (h1 : r.1.length = n) (h2 : r.2.length = m) (hk : L.length ≤ 60000) :
    Calls Try.prog 51 #[v, x] w fun e w' => ∃ v', e = .returned v' ∧ OwnR w' B v' (insL L r) ∧ Below w.heap.size w w' := by
  obtain ⟨A, c, rfl, hr, hc1, hc2⟩ := hv.rl
  refine (refinsert_own hr hx hs h1 h2 hk hc1 hc2).mono fun e w' ⟨A1, c1, he, _, _, _, h3, hb⟩ => ⟨_, he, ?_, hb⟩
  rcases h3 with ⟨rfl, rfl, hL⟩ | ⟨B2, hB, hw⟩
  · rw [hL]; exact hv.step hb
  · exact OwnR.mono hw (Nat.le_trans hBw hB)
end Go.Proofs.Ytaidbcppecoenaa

/- The document's system: its rows. -/
namespace Go.Proofs.Ytaidbcppecoenaa
open Go.RowKit
set_option linter.unusedVariables false
set_option maxRecDepth 100000

/-- Rows, handed back. -/
def RowsEnds (L : List RowL) (w : World) (e : Ending) (w' : World) : Prop := ∃ A c, e = .returned (.slice A L.length c) ∧ OwnR w' w.heap.size (.slice A L.length c) L ∧ Below w.heap.size w w'
set_option maxHeartbeats 4000000 in
theorem refrows_any {w : World} {n t k c : Nat} {A : Option Addr} {d : List RowL} (hL : RL w w.heap.size A k d) (hs : Wide8 n t d) (hg : Good n t (insAll d)) (hk : k ≤ 60000) :
    Calls Try.prog 44 #[.slice A k c] w (RowsEnds (rowsD d) w) := by
  have hdl := hL.1
  subst hdl
  have Hs := Lib.hid hs
  have Hsuit := Lib.hid fun j => insAll_suit (hs.take j)
  have HG := Lib.hid hg
  have HR := Lib.hid fun W (hW : Below w.heap.size w W) => hL.step hW
  have hML := insAll_len d
  clear hL hs hg
  go_enter Try.func44, Try.ntmps44
  go_wp2_with fail
  go_loopw [3, 12] (fun v i wr => ∃ (out : Value) (j : Nat), j ≤ d.length ∧ out = v ∧ i = .int .i64 (j : Int) ∧ OwnR wr w.heap.size out (insAll (d.take j)) ∧ Below w.heap.size w wr) (fun _ i _ => d.length - (intOf i).toNat)
  case atStart => exact ⟨_, 0, by omega, rfl, rfl, OwnR.nil _ _, Below.refl _ _⟩
  case round =>
    obtain ⟨wo, rfl⟩ : ∃ wo : World, wo = wr := ⟨_, rfl⟩
    obtain ⟨out, j, hj, rfl, rfl, hown, hb⟩ := hrel
    by_cases hlt : j < d.length
    · obtain ⟨g, o, A1, n1, c1, A2, n2, c2, rfl, k0, k1, r⟩ := (HR.out _ hb).at_ hlt
      have hsz : (d[j]?.getD ([], [])).1.length = n ∧ (d[j]?.getD ([], [])).2.length = t := by
        rw [List.getElem?_eq_getElem hlt]; exact Hs.out _ (List.getElem_mem hlt)
      have HN := Lib.hid (insAll_take hlt)
      have hll : (insAll (d.take j)).length ≤ 60000 := by have := insAll_len (d.take j); rw [List.length_take] at this; omega
      have kb := balloc wo (.cells #[.slice A1 n1 c1, .slice A2 n2 c2] 65)
      have b6 := Blk.new wo 65 #[.slice A1 n1 c1, .slice A2 n2 c2]
      have CI := insertR_own (hown.step kb) (Nat.le_trans hb.size kb.size) (r.step kb) (Hsuit.out j) hsz.1 hsz.2 hll
      have Hb := Lib.hid (bstep hb kb)
      clear hsz hll r
      go_wp2_with fail
      refine CI.mono ?_
      rintro e w1 ⟨v1, rfl, ho1, b1⟩
      rw [← HN.out] at ho1
      have hb1 := bstep Hb.out b1
      clear CI b1 b6 kb hown
      go_wp2_with fail
      go_roundw
      case rel => exact ⟨_, j + 1, by omega, rfl, by go_num, ho1, hb1⟩
      case measure => simp [intOf]; omega
    · obtain rfl : j = d.length := by omega
      have hfull : insAll (d.take d.length) = insAll d := by rw [List.take_length]
      rw [hfull] at hown
      have hG := HG.out
      have HD : Hid (rowsD d = backL (insAll d)) := Lib.hid rfl
      generalize insAll d = M at *
      clear hfull hlt hj
      have HG := Lib.hid hG
      clear hG
      obtain ⟨A9, c9, rfl, _, _, _⟩ := hown.rl
      have hown0 : OwnR wo w.heap.size (.slice A9 M.length c9) (stateL M 0) := by rw [state_zero]; exact hown
      clear hown
      go_wp2_with fail
      go_loopw [22] (fun i wr => ∃ j : Nat, j ≤ M.length ∧ i = .int .i64 (j : Int) ∧ OwnR wr w.heap.size (.slice A9 M.length c9) (stateL M j) ∧ Below w.heap.size w wr) (fun i _ => M.length - (intOf i).toNat)
      case atStart => exact ⟨0, by omega, rfl, hown0, hb⟩
      case round =>
        clear hown0 hb
        obtain ⟨wq, rfl⟩ : ∃ wq : World, wq = wr := ⟨_, rfl⟩
        obtain ⟨i, hi, rfl, hown, hb⟩ := hrel
        by_cases hlt : i < M.length
        · rw [← mid_zero hlt] at hown
          go_wp2_with fail
          go_loopw [27] (fun v wr => ∃ j : Nat, j ≤ M.length ∧ v = .int .i64 (j : Int) ∧ OwnR wr w.heap.size (.slice A9 M.length c9) (midM M i j) ∧ Below w.heap.size w wr) (fun v _ => M.length - (intOf v).toNat)
          case atStart => exact ⟨0, by omega, rfl, hown, hb⟩
          case round =>
            clear hown hb
            obtain ⟨wo, rfl⟩ : ∃ wo : World, wo = wr := ⟨_, rfl⟩
            obtain ⟨j, hj, rfl, hown, hb⟩ := hrel
            by_cases hjl : j < M.length
            · by_cases hji : j = i
              · subst hji
                have t1 : ((j : Int) != (j : Int)) = false := by simp
                rw [← mid_skip] at hown
                go_wp2_with fail
                go_roundw
                case rel => exact ⟨j + 1, by omega, by go_num, hown, hb⟩
                case measure => simp [intOf]; omega
              · have t1 : ((j : Int) != (i : Int)) = true := by rw [bne_iff_ne]; omega
                obtain ⟨o, l, ho, o1, o2, o3, o4, o5⟩ := mid_step HG.out hlt hjl hji
                obtain ⟨x1, x2⟩ := midRow_len HG.out hlt (j := j)
                have hLl := mid_len (k := j) hlt
                obtain ⟨g, c, A1, n1, c1, A2, n2, c2, ev, hBg, hgw, y0, y1, ry, f0, f1⟩ := hown.at_ (i := i) (by omega)
                obtain ⟨g', c', A3, n3, c3, A4, n4, c4, ev2, _, _, z0, z1, rz, _, _⟩ := hown.at_ (i := j) (by omega)
                rw [hLl] at ev ev2
                injection ev with ea eb ec
                subst ea ec
                injection ev2 with ea2 eb2 ec2
                injection ea2 with ea2
                injection ea2 with ea2
                subst ea2 ec2
                rw [mid_self hlt] at ry
                rw [ho] at rz
                obtain ⟨q1, q2, l1, l2⟩ := ry.parts
                obtain ⟨q3, q4, l3, l4⟩ := rz.parts
                have hln : l < n1 := by have := q1.1; omega
                obtain ⟨b, of, rfl, hbV, hbyte⟩ := q1.at_ hln
                have Hnew : Hid ((lessR (midRow M i j) ((midRow M i j).1[l]?.getD 0) o).1 = midRow M i (j + 1)) := Lib.hid (by
                  rw [← o5]
                  unfold lessAt atB
                  rw [if_pos (by omega), Int.toNat_natCast])
                have HO := Lib.hid fun (W : World) (hW : Below wo.heap.size wo W) => hown.step hW
                have Hset : Hid ((midM M i j).set i (midRow M i (j + 1)) = midM M i (j + 1)) := Lib.hid (mid_set hlt)
                have Hll := Lib.hid hLl
                have CL : Hid (∀ W, Below wo.heap.size wo W → Calls Try.prog 67 #[.slice A3 n3 c3] W fun e w' => e = .returned (.int .i64 (l : Int)) ∧ W = w') := Lib.hid fun W hW => by
                  have := reflead_any (c := c3) (q3.step hW) (by omega)
                  rw [o3] at this
                  exact this
                generalize (midRow M i j).1[l]?.getD 0 = a at *
                have CS := Lib.hid fun (W : World) (hW : Below wo.heap.size wo W) => c_refless a (ry.step hW) (rz.step hW)
                have HS : Hid (∀ W, Below wo.heap.size wo W → (Below wo.heap.size wo W ∧ W.cell? ⟨g, i * 2, none⟩ = some (.slice (some ⟨b, of, none⟩) n1 c1) ∧ W.cell? ⟨g, i * 2 + 1, none⟩ = some (.slice A2 n2 c2) ∧ W.cell? ⟨g, j * 2, none⟩ = some (.slice A3 n3 c3) ∧ W.cell? ⟨g, j * 2 + 1, none⟩ = some (.slice A4 n4 c4) ∧ W.cell? ⟨b, of + l, none⟩ = some (.int .u8 (bv a)))) := Lib.hid fun W hW =>
                  ⟨hW, (hW.cell (p := ⟨g, i * 2, none⟩) hgw).trans y0, (hW.cell (p := ⟨g, i * 2 + 1, none⟩) hgw).trans y1, (hW.cell (p := ⟨g, j * 2, none⟩) hgw).trans z0, (hW.cell (p := ⟨g, j * 2 + 1, none⟩) hgw).trans z1, (hW.cell (p := ⟨b, of + l, none⟩) hbV).trans hbyte⟩
                generalize midRow M i j = x at *
                generalize midRow M i (j + 1) = x' at *
                clear q1 q2 q3 q4 ry rz hown hbyte y0 y1 z0 z1 f0 f1 o5 ho o1 o2 o3 x1 x2 hLl hbV hji
                have n0 : ∀ W : World, (W.alloc (.cells #[.slice none 0 0, .slice none 0 0] 65)).cell? ⟨W.heap.size, 0, none⟩ = some (.slice none 0 0) := fun W => (cells2 (Blk.new W 65 #[.slice none 0 0, .slice none 0 0])).1
                have n1' : ∀ W : World, (W.alloc (.cells #[.slice none 0 0, .slice none 0 0] 65)).cell? ⟨W.heap.size, 1, none⟩ = some (.slice none 0 0) := fun W => (cells2 (Blk.new W 65 #[.slice none 0 0, .slice none 0 0])).2.1
                have n2' : ∀ W : World, (W.alloc (.cells #[.slice none 0 0, .slice none 0 0] 65)).frozen? ⟨W.heap.size, 0, none⟩ = false := fun W => (cells2 (Blk.new W 65 #[.slice none 0 0, .slice none 0 0])).2.2.1
                have n3' : ∀ W : World, (W.alloc (.cells #[.slice none 0 0, .slice none 0 0] 65)).frozen? ⟨W.heap.size, 1, none⟩ = false := fun W => (cells2 (Blk.new W 65 #[.slice none 0 0, .slice none 0 0])).2.2.2
                go_wp2_with fail
                go_region_held3 (fun W => Below wo.heap.size wo W ∧ W.cell? ⟨g, i * 2, none⟩ = some (.slice (some ⟨b, of, none⟩) n1 c1) ∧ W.cell? ⟨g, i * 2 + 1, none⟩ = some (.slice A2 n2 c2) ∧ W.cell? ⟨g, j * 2, none⟩ = some (.slice A3 n3 c3) ∧ W.cell? ⟨g, j * 2 + 1, none⟩ = some (.slice A4 n4 c4) ∧ W.cell? ⟨b, of + l, none⟩ = some (.int .u8 (bv a)))
                  ((refine HS.out _ ?_; first | exact (Below.refl _ _).drew | assumption | exact kB8.alloc kB8.size _ | exact ((kB8.alloc kB8.size _).setCell kB8.size _).setCell kB8.size _ | exact (kB8.setCell (Nat.le_refl _) _).setCell (Nat.le_refl _) _ | exact (Below.refl _ _).drew.alloc (Nat.le_refl _) _ | go_grown))
                  (first
                    | (go_at_call 67; (with_reducible refine (CL.out _ (And.left ‹Below wo.heap.size wo _ ∧ _›)).mono ?_); rintro e w7 ⟨rfl, rfl⟩)
                    | (go_at_call 66; (with_reducible refine (CS.out _ (And.left ‹Below wo.heap.size wo _ ∧ _›)).mono ?_); rintro e w8 ⟨v8, rfl, ⟨A5, n5, c5, A6, n6, c6, rfl, q5, q6, l5, l6⟩, b8⟩; have kB8 := bstep (And.left ‹Below wo.heap.size wo _ ∧ _›) b8; try (have m0 := (b8.cell (p := ⟨wo.heap.size, 0, none⟩) (by simp)).trans (n0 _); have m1 := (b8.cell (p := ⟨wo.heap.size, 1, none⟩) (by simp)).trans (n1' _); have m2 := (b8.frozen (p := ⟨wo.heap.size, 0, none⟩) (by simp)).trans (n2' _); have m3 := (b8.frozen (p := ⟨wo.heap.size, 1, none⟩) (by simp)).trans (n3' _))))
                all_goals
                  have hY := And.left ‹Below wo.heap.size wo _ ∧ _›
                  obtain ⟨g9, d9, B1, m1', e1', B2, m2', e2', ev9, _, _, y0, y1, _, f0, f1⟩ := (HO.out _ hY).at_ (i := i) (by rw [Hll.out]; exact hlt)
                  rw [Hll.out] at ev9
                  injection ev9 with ev9
                  injection ev9 with ev9
                  injection ev9 with ev9
                  subst ev9
                  have r9 := by
                    first
                    | exact ((RowIs.mk (r := (lessR x a o).1) (c := c5) (c2 := c6) q5 q6 l5 l6).over (x := .slice A5 n5 c5) m0 (slice_noByte _ _ _)).over (p := ⟨wo.heap.size, 1, none⟩) (x := .slice A6 n6 c6) ((World.cell?_setCell_other _ _ _ _ (by simp)).trans m1) (slice_noByte _ _ _)
                    | exact (RowIs.mk (r := (lessR x a o).1) (c := c5) (c2 := c6) q5 q6 l5 l6).step (balloc w8 (.cells #[.slice A5 n5 c5, .slice A6 n6 c6] 65))
                  rw [Hnew.out] at r9
                  have ho9 := OwnR.set (HO.out _ hY) (i := i) (by rw [Hll.out]; exact hlt) r9
                  rw [Hset.out] at ho9
                  have hb9 := ((bstep hb hY).setCell (p := ⟨g, i * 2, none⟩) hBg (.slice A5 n5 c5)).setCell (p := ⟨g, i * 2 + 1, none⟩) hBg (.slice A6 n6 c6)
                  clear r9
                  go_wp2_with fail
                  go_roundw
                  case rel => exact ⟨j + 1, by omega, by go_num, ho9, hb9⟩
                  case measure => simp [intOf]; omega
            · obtain rfl : j = M.length := by omega
              rw [mid_all hlt] at hown
              clear hjl
              go_wp2_with fail
              go_roundw
              case rel => exact ⟨i + 1, by omega, by go_num, hown, hb⟩
              case measure => simp [intOf]; omega
        · obtain rfl : i = M.length := by omega
          rw [state_all] at hown
          have hown2 := Lib.hid hown
          clear hown hlt
          go_wp2_with fail
          go_ret
          exact ⟨A9, c9, by rw [HD.out, back_len]; rfl, by rw [HD.out, back_len]; exact hown2.out, hb⟩
end Go.Proofs.Ytaidbcppecoenaa

/- The document's system: what is left of an equation. -/
namespace Go.Proofs.Ytaidbcppecoenaa
open Go.RowKit
set_option linter.unusedVariables false
set_option maxRecDepth 100000

theorem two_cells (W : World) (x y : Value) (T : TypeId) : (W.alloc (.cells #[x, y] T)).cell? ⟨W.heap.size, 0, none⟩ = some x ∧ (W.alloc (.cells #[x, y] T)).cell? ⟨W.heap.size, 1, none⟩ = some y ∧ (W.alloc (.cells #[x, y] T)).frozen? ⟨W.heap.size, 0, none⟩ = false ∧ (W.alloc (.cells #[x, y] T)).frozen? ⟨W.heap.size, 1, none⟩ = false := cells2 (Blk.new W T #[x, y])
set_option maxHeartbeats 4000000 in
theorem refrest8_any {w : World} {n t k c : Nat} {A : Option Addr} {d : List RowL} {r : RowL} {x : Value} (hL : RL w w.heap.size A k d) (hs : Wide8 n t d) (hgd : Good n t (insAll d)) (hk : k ≤ 60000) (hx : RowIs w r x) (h1 : r.1.length = n) (h2 : r.2.length = t) :
    Calls Try.prog 34 #[.slice A k c, x] w (RowEnds (restL (rowsD d) r) w) := by
  obtain ⟨A1, n1, c1, A2, n2, c2, rfl, p1, p2, l1, l2⟩ := hx
  obtain ⟨hb0, b3, b4⟩ := two_alloc (w := w) (T := 65) (T2 := 65) (cs := #[.slice A1 n1 c1, .slice A2 n2 c2]) (cs2 := #[.slice none 0 0, .slice none 0 0])
  have hH : Holds _ w.heap.size 65 r := ⟨_, _, _, _, _, _, b3, (RowIs.mk (c := c1) (c2 := c2) p1 p2 l1 l2).step hb0⟩
  have CR := refrows_any (c := c) ((hL.step hb0).more hb0.size) hs hgd hk
  have HSuit : Hid (Suit n t (rowsD d)) := Lib.hid (back_good hgd).1.1
  have H1 := Lib.hid h1
  have H2 := Lib.hid h2
  have hlt4 : w.heap.size + 1 < ((w.alloc (.cells #[.slice A1 n1 c1, .slice A2 n2 c2] 65)).alloc (.cells #[.slice none 0 0, .slice none 0 0] 65)).heap.size := b4.lt
  have hrl : (rowsD d).length ≤ 60000 := by have := insAll_len d; unfold rowsD; rw [back_len, ← hL.1] at *; omega
  clear hL p1 p2 hs h1 h2 b3 hgd
  go_enter Try.func34, Try.ntmps34
  go_wp2_with fail
  refine CR.mono ?_
  rintro e w1 ⟨A9, c9, rfl, hown, b1⟩
  have hzz := b1.size
  generalize hBB : ((w.alloc (.cells #[.slice A1 n1 c1, .slice A2 n2 c2] 65)).alloc (.cells #[.slice none 0 0, .slice none 0 0] 65)).heap.size = B at *
  have hB : w.heap.size < B := by omega
  have hH1 := hH.step (hBB ▸ b1)
  have b41 := b4.below (hBB ▸ b1) b4.lt
  have hb1 := bstep hb0 (hBB ▸ b1)
  clear hH b4 hb0 b1 CR hBB
  generalize rowsD d = L at *
  go_wp2_with fail
  go_loopw [12] (fun v wr => ∃ i : Nat, i ≤ L.length ∧ v = .int .i64 (i : Int) ∧ OwnR wr B (.slice A9 L.length c9) L ∧ Holds wr w.heap.size 65 (restL (L.take i) r) ∧ Blk wr (w.heap.size + 1) 65 #[.slice none 0 0, .slice none 0 0] ∧ B ≤ wr.heap.size ∧ Below w.heap.size w wr) (fun v _ => L.length - (intOf v).toNat)
  case atStart => exact ⟨0, by omega, rfl, hown, hH1, b41, hzz, hb1⟩
  case round =>
    clear hown hH1 b41 hzz hb1
    obtain ⟨i, hi, rfl, hown, hH, b4, hzB, hb⟩ := hrel
    by_cases hlt : i < L.length
    · obtain ⟨g, c', A5, n5, c5, A6, n6, c6, ev, hBg, hgw, k0, k1, r5, _, _⟩ := hown.at_ hlt
      injection ev with ea eb ec
      subst ea ec
      have hsn := Lib.hid (rest_snoc L r i hlt)
      have hz := Lib.hid (suit_at HSuit.out hlt)
      have hw := Lib.hid (rest_len (suit_take HSuit.out i) r H1.out H2.out)
      obtain ⟨q5, q6, l5, l6⟩ := r5.parts
      have kb := balloc wr (.cells #[.slice A5 n5 c5, .slice A6 n6 c6] 65)
      have b6 := Blk.new wr 65 #[.slice A5 n5 c5, .slice A6 n6 c6]
      have hbwr := hb
      replace hown := hown.step kb
      replace hH := hH.step kb
      replace b4 := b4.below kb b4.lt
      replace r5 := r5.step kb
      replace hb := bstep hb kb
      replace q5 := q5.step kb
      have hzB2 := Nat.le_trans hzB kb.size
      clear q6 l5 l6
      go_wp2_with fail
      clear k0 k1 kb
      generalize wr.alloc (.cells #[.slice A5 n5 c5, .slice A6 n6 c6] 65) = V at *
      obtain ⟨j, hj⟩ : ∃ j : Nat, leadI (L[i]?.getD ([], [])).1 = (j : Int) := ⟨(leadI (L[i]?.getD ([], [])).1).toNat, by have := hz.out.2.2; omega⟩
      have hjn : j < n := by
        have h1 := lead_bounds (L[i]?.getD ([], [])).1
        have h2 := hz.out.1
        omega
      have hsn2 : Hid (restL (L.take (i + 1)) r = (lessR (restL (L.take i) r) ((restL (L.take i) r).1[j]?.getD 0) (L[i]?.getD ([], []))).1) := Lib.hid (by
        rw [hsn.out, hj]
        unfold lessAt atB
        rw [if_pos (by rw [hw.out.1]; omega), Int.toNat_natCast])
      have CL : Hid (∀ W, Below V.heap.size V W → Calls Try.prog 67 #[.slice A5 n5 c5] W fun e w' => e = .returned (.int .i64 (j : Int)) ∧ W = w') := Lib.hid fun W hW => by
        have := reflead_any (c := c5) (q5.step hW) (by have := q5.1; have := r5.parts.2.2.1; omega)
        rw [hj] at this
        exact this
      clear hj hsn
      generalize L[i]?.getD ([], []) = y at *
      generalize restL (L.take i) r = x at *
      obtain ⟨A7, n7, c7, A8, n8, c8, b3, r3⟩ := hH
      obtain ⟨q7, q8, l7, l8⟩ := r3.parts
      obtain ⟨b, of, rfl, hbV, hbyte⟩ := q7.at_ (k := j) (by have := q7.1; have := hw.out.1; omega)
      have hlt7 : j < n7 := by have := q7.1; have := hw.out.1; omega
      generalize x.1[j]?.getD 0 = a at *
      have CS := Lib.hid fun (W : World) (hW : Below V.heap.size V W) => c_refless a (r3.step hW) (r5.step hW)
      have HS : Hid (∀ W, Below V.heap.size V W → (Below V.heap.size V W ∧ W.cell? ⟨w.heap.size, 0, none⟩ = some (.slice (some ⟨b, of, none⟩) n7 c7) ∧ W.cell? ⟨w.heap.size, 1, none⟩ = some (.slice A8 n8 c8) ∧ W.cell? ⟨wr.heap.size, 0, none⟩ = some (.slice A5 n5 c5) ∧ W.cell? ⟨wr.heap.size, 1, none⟩ = some (.slice A6 n6 c6) ∧ W.cell? ⟨b, of + j, none⟩ = some (.int .u8 (bv a)))) := Lib.hid fun w' hb => by
        obtain ⟨z1, z2, z3, z4⟩ := cells22 b3 b6 hb
        exact ⟨hb, z1, z2, z3, z4, (hb.cell (p := ⟨b, of + j, none⟩) hbV).trans hbyte⟩
      have HO := Lib.hid fun (W : World) (hW : Below V.heap.size V W) => hown.step hW
      have H3 := Lib.hid fun (W : World) (hW : Below V.heap.size V W) => b3.below hW b3.lt
      have H4 := Lib.hid fun (W : World) (hW : Below V.heap.size V W) => b4.below hW b4.lt
      have n0 := fun W : World => (two_cells W (.slice none 0 0) (.slice none 0 0) 65).1
      have n1' := fun W : World => (two_cells W (.slice none 0 0) (.slice none 0 0) 65).2.1
      have n2' := fun W : World => (two_cells W (.slice none 0 0) (.slice none 0 0) 65).2.2.1
      have n3' := fun W : World => (two_cells W (.slice none 0 0) (.slice none 0 0) 65).2.2.2
      clear q5 q7 q8 r3 r5 hown b3 b4 b6 hbyte hbV hbwr hz hw hjn
      go_region_held3 (fun W => Below V.heap.size V W ∧ W.cell? ⟨w.heap.size, 0, none⟩ = some (.slice (some ⟨b, of, none⟩) n7 c7) ∧ W.cell? ⟨w.heap.size, 1, none⟩ = some (.slice A8 n8 c8) ∧ W.cell? ⟨wr.heap.size, 0, none⟩ = some (.slice A5 n5 c5) ∧ W.cell? ⟨wr.heap.size, 1, none⟩ = some (.slice A6 n6 c6) ∧ W.cell? ⟨b, of + j, none⟩ = some (.int .u8 (bv a)))
        ((refine HS.out _ ?_; first | exact (Below.refl _ _).drew | assumption | exact kB8.alloc kB8.size _ | exact ((kB8.alloc kB8.size _).setCell kB8.size _).setCell kB8.size _ | exact (kB8.setCell (Nat.le_refl _) _).setCell (Nat.le_refl _) _ | exact (Below.refl _ _).drew.alloc (Nat.le_refl _) _ | go_grown))
        (first
          | (go_at_call 67; (with_reducible refine (CL.out _ (And.left ‹Below V.heap.size V _ ∧ _›)).mono ?_); rintro e w7 ⟨rfl, rfl⟩)
          | (go_at_call 66; (with_reducible refine (CS.out _ (And.left ‹Below V.heap.size V _ ∧ _›)).mono ?_); rintro e w8 ⟨v8, rfl, ⟨C5, m5, d5, C6, m6, d6, rfl, s5, s6, i5, i6⟩, b8⟩; have kB8 := bstep (And.left ‹Below V.heap.size V _ ∧ _›) b8; try (have m0 := (b8.cell (p := ⟨V.heap.size, 0, none⟩) (by simp)).trans (n0 _); have m1 := (b8.cell (p := ⟨V.heap.size, 1, none⟩) (by simp)).trans (n1' _); have m2 := (b8.frozen (p := ⟨V.heap.size, 0, none⟩) (by simp)).trans (n2' _); have m3 := (b8.frozen (p := ⟨V.heap.size, 1, none⟩) (by simp)).trans (n3' _))))
      all_goals
        have hY := And.left ‹Below V.heap.size V _ ∧ _›
        have r9 := by
          first
          | exact ((RowIs.mk (r := (lessR x a y).1) (c := d5) (c2 := d6) s5 s6 i5 i6).over (x := .slice C5 m5 d5) m0 (slice_noByte _ _ _)).over (p := ⟨V.heap.size, 1, none⟩) (x := .slice C6 m6 d6) ((World.cell?_setCell_other _ _ _ _ (by simp)).trans m1) (slice_noByte _ _ _)
          | exact (RowIs.mk (r := (lessR x a y).1) (c := d5) (c2 := d6) s5 s6 i5 i6).step (balloc w8 (.cells #[.slice C5 m5 d5, .slice C6 m6 d6] 65))
        have b9 := H3.out _ hY
        have hH9 := Holds.turn b9 NoBytes.two r9
        obtain ⟨x0, x1, x2, x3⟩ := cells2 b9
        have ho9 := ((HO.out _ hY).other (x := .slice C5 m5 d5) hB x0 (slice_noByte _ _ _)).other (h := w.heap.size) (i := 1) (x := .slice C6 m6 d6) hB ((World.cell?_setCell_other _ _ _ _ (by simp)).trans x1) (slice_noByte _ _ _)
        have b49 := ((H4.out _ hY).far (p := (⟨w.heap.size, 0, none⟩ : Addr)) (show w.heap.size + 1 ≠ w.heap.size by omega) (.slice C5 m5 d5)).far (p := (⟨w.heap.size, 1, none⟩ : Addr)) (show w.heap.size + 1 ≠ w.heap.size by omega) (.slice C6 m6 d6)
        have hb9 := ((bstep hb hY).setCell (p := ⟨w.heap.size, 0, none⟩) (Nat.le_refl _) (.slice C5 m5 d5)).setCell (p := ⟨w.heap.size, 1, none⟩) (Nat.le_refl _) (.slice C6 m6 d6)
        have hz9 : B ≤ _ := Nat.le_trans hzB2 hY.size
        rw [← hsn2.out] at hH9
        clear r9 b9
        go_wp2_with fail
        go_roundw
        case rel => exact ⟨i + 1, by omega, by go_num, ho9, hH9, b49, by simpa [World.setCell] using hz9, hb9⟩
        case measure => simp [intOf]; omega
    · obtain rfl : i = L.length := by omega
      rw [List.take_length] at hH
      obtain ⟨A3, n3, c3, A4, n4, c4, b3, r3⟩ := hH
      obtain ⟨hc0, hc1, hf0, hf1⟩ := cells2 b3
      obtain ⟨hd0, hd1, he0, he1⟩ := cells2 b4
      clear hown
      go_wp2_with fail
      obtain ⟨q3, q4, l3, l4⟩ := r3.parts
      refine end_row (v := .agg #[.slice A3 n3 c3, .slice A4 n4 c4]) b4 (by intro W e0 e1; simp [results, Try.results34, go_sem, e0, e1]) rfl fun W hl => ?_
      exact RowEnds.mk (hl.row q3 b4 NoBytes.two) (hl.row q4 b4 NoBytes.two) l3 l4 (hl.below _ _ (by omega) hb)
end Go.Proofs.Ytaidbcppecoenaa

