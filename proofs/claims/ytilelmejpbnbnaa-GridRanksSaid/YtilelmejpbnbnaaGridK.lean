import Derived.Test.YtilelmejpbnbnaaGridJ
import Derived.StillTailTactics
/- carried: its walk. -/
namespace Go.Proofs.Ytilelmejpbnbnaa
open Go.RowKit
set_option linter.unusedVariables false
set_option maxRecDepth 100000

def Carried (P : (Pt → Prop) → Prop) (n m g : Nat) (w : World) (e : Ending) (w' : World) : Prop :=
  ∃ (D : List (List UInt8)) (A : Option Addr) (c : Nat), e = .returned (.slice A n c) ∧ n ≤ c ∧ Rds w' w'.heap.size A n D ∧ (∀ i, i < n → (D[i]?.getD []).length = m ∧ ∀ S, P S → S (pt (unitL n i, D[i]?.getD []))) ∧ w.grownBy w' (some g)
def Kept (n L : Nat) (st : Nat → Option RowL) (f : Nat → Option (List UInt8)) : Prop := ∀ i, L ≤ i → i < n → f i = (st i).map Prod.snd
theorem Kept.upd {n L k : Nat} {st : Nat → Option RowL} {f : Nat → Option (List UInt8)} {r : RowL} (h : Kept n L st f) (hk : k < L) : Kept n L (upd st k r) f := fun i h1 h2 => by
  rw [h i h1 h2]
  unfold Go.Proofs.Ytilelmejpbnbnaa.upd
  rw [if_neg (by omega)]
theorem Kept.put {n l : Nat} {st : Nat → Option RowL} {f : Nat → Option (List UInt8)} {r : RowL} (h : Kept n (l + 1) st f) (hr : st l = some r) : Kept n l st (updF f l r.2) := fun i h1 h2 => by
  unfold updF
  by_cases hil : i = l
  · subst hil; rw [if_pos rfl, hr]; rfl
  · rw [if_neg hil, h i (by omega) h2]
theorem Stairs.far1 {w : World} {g n h : Nat} {st : Nat → Option RowL} {T : TypeId} {cs : Array Value} {i : Nat} {x : Value} (hS : Stairs w g n st) (hh : Blk w h T cs) (hn : NoBytes cs) (hne : g ≠ h) : Stairs (w.setCell ⟨h, i, none⟩ x) g n st := by
  obtain ⟨cs', h1, h2, h3, h4⟩ := hS
  have hs : (w.setCell ⟨h, i, none⟩ x).heap.size = w.heap.size := by simp [World.setCell]
  refine ⟨cs', h1, h2.far (p := (⟨h, i, none⟩ : Addr)) hne x, h3, fun k hk => ?_⟩
  rcases h4 k hk with h | ⟨r, b, o, m, c, A2, m2, c2, e1, e2, e3, e4⟩
  · exact .inl h
  · obtain ⟨q1, q2, l1, l2⟩ := e4.parts
    refine .inr ⟨r, b, o, m, c, A2, m2, c2, e1, e2, e3, RowIs.mk ?_ ?_ l1 l2⟩
    · exact (q1.far hh hn fun p hp => World.cell?_setCell_far _ _ _ _ (fun e => hp e.symm)).more (by rw [hs]; exact Nat.le_refl _)
    · exact (q2.far hh hn fun p hp => World.cell?_setCell_far _ _ _ _ (fun e => hp e.symm)).more (by rw [hs]; exact Nat.le_refl _)
set_option maxHeartbeats 1000000 in
theorem carried_any {P : (Pt → Prop) → Prop} (hP : ∀ S, P S → Sub S) {w : World} {g n m : Nat} {st : Nat → Option RowL} (hS : Stairs w g n st) (hU : Upto P n m n st) (hn : n ≤ 65536) :
    Calls Try.prog 58 #[.slice (some ⟨g, 0, none⟩) n n] w (Carried P n m g w) := by
  have hmk := make_rows n (by omega) w
  have hF := FilledAt.new w n
  have hS1 := hS.step (balloc w (.cells (nils n).toArray 52))
  have hgr := World.grownBy_alloc w (.cells (nils n).toArray 52) (some g)
  have hgl := hS.lt
  have HU := Lib.hid hU
  have HP := Lib.hid hP
  have hK : Hid (Kept n n st fun _ => none) := Lib.hid fun i h1 h2 => by omega
  clear hS hU hP
  go_enter Try.func58, Try.ntmps58
  go_wp2_with fail
  go_loopw [4] (fun v wr => ∃ (L : Nat) (st : Nat → Option RowL) (f : Nat → Option (List UInt8)), L ≤ n ∧ v = .int .i64 ((L : Int) - 1) ∧ Hid (Upto P n m L st) ∧ Hid (Kept n L st f) ∧ Stairs wr g n st ∧ FilledAt wr w.heap.size n f ∧ w.grownBy wr (some g)) (fun v _ => (intOf v + 1).toNat)
  case atStart => exact ⟨n, st, _, Nat.le_refl _, rfl, HU, hK, hS1, hF, hgr⟩
  case round =>
    clear HU hK hS1 hF hgr hmk
    obtain ⟨L, st, f, hL, rfl, HU, HK, hS, hF, hgr⟩ := hrel
    by_cases hL0 : L = 0
    · subst hL0
      have HD : Hid (∀ i, i < n → ∃ r, st i = some r ∧ r.2.length = m ∧ r.1 = unitL n i ∧ ∀ S, P S → S (pt r)) := Lib.hid fun i hi => HU.out.unit hi
      have hRD : Rds wr wr.heap.size (some ⟨w.heap.size, 0, none⟩) n ((List.range n).map fun i => ((st i).map Prod.snd).getD []) := hF.rds (by simp) fun i us hu => by
        have hi : i < n := by
          have := (List.getElem?_eq_some_iff.1 hu).1
          simpa using this
        obtain ⟨r, hr, _⟩ := HD.out i hi
        rw [HK.out i (by omega) hi, hr]
        simp [hi, hr] at hu
        rw [← hu]; rfl
      have HR := Lib.hid hRD
      clear hRD
      go_wp2_with fail
      go_ret
      refine ⟨_, _, _, rfl, Nat.le_refl _, HR.out, fun i hi => ?_, hgr⟩
      obtain ⟨r, h1, h2, h3, h4⟩ := HD.out i hi
      simp only [List.getElem?_map, List.getElem?_range hi, Option.map_some, Option.getD_some, h1]
      rw [← h3]
      exact ⟨h2, h4⟩
    · obtain ⟨l, rfl⟩ : ∃ l, L = l + 1 := ⟨L - 1, by omega⟩
      have e1 : ((l + 1 : Nat) : Int) - 1 = (l : Int) := by omega
      rw [e1]
      have t : decide (0 ≤ (l : Int)) = true := by simp
      have HI := Lib.hid HU.out.inner
      clear e1 HU hL0
      go_wp2_with fail
      go_loopw [17] (fun v wr => ∃ (k : Nat) (st : Nat → Option RowL), k ≤ l ∧ v = .int .i64 (k : Int) ∧ Hid (Inner P n m l k st) ∧ Hid (Kept n (l + 1) st f) ∧ Stairs wr g n st ∧ FilledAt wr w.heap.size n f ∧ w.grownBy wr (some g)) (fun v _ => l - (intOf v).toNat)
      case atStart => exact ⟨0, st, by omega, rfl, HI, HK, hS, hF, hgr⟩
      case round =>
        clear HI HK hS hF hgr
        obtain ⟨k, st, hk, rfl, HI, HK, hS, hF, hgr⟩ := hrel
        by_cases hkl : k < l
        · obtain ⟨r, hr, r2, r3, _⟩ := HI.out k (by omega)
          obtain ⟨o, ho, o2, o3, _⟩ := HI.out l (by omega)
          obtain ⟨b, of, m1, c1, A2, m2, c2, z0, z1, rr⟩ := hS.full (by omega) hr
          obtain ⟨b5, of5, m5, c5, A6, m6, c6, y0, y1, ro⟩ := hS.full (by omega) ho
          have HN := Lib.hid (HI.out.next HP.out hkl (by omega) hr ho)
          have HK2 : Hid (Kept n (l + 1) (upd st k (lessAt r o l)) f) := Lib.hid (HK.out.upd (by omega))
          have hlen := lessAt_len (r := r) (o := o) (i := (l : Int)) (by omega) (by omega)
          have hl1 : -9223372036854775808 ≤ (l : Int) := by omega
          have hl2 : (l : Int) ≤ 9223372036854775807 := by omega
          have hkn : k < n := by omega
          have hln : l < n := by omega
          have C := fun W hr ho => gless_any (w := W) (r := r) (o := o) (x := .agg #[.slice (some ⟨b, of, none⟩) m1 c1, .slice A2 m2 c2]) (y := .agg #[.slice (some ⟨b5, of5, none⟩) m5 c5, .slice A6 m6 c6]) (l : Int) hr ho hl1 hl2
          go_wp2_with fail
          go_region_law ((go_simp; go_at_call 79; (with_reducible refine (C wr.drew (rr.step (Below.refl _ _).drew) (ro.step (Below.refl _ _).drew)).mono ?_); rintro e w7 ⟨v7, rfl, ⟨A7, n7, c7, A8, n8, c8, rfl, q7, q8, l7, l8⟩, b7⟩; have kB7 := bstep (Below.refl _ wr).drew b7; have hS7 := hS.step kB7; have hfa := hS7.free (k * 2); have hfb := hS7.free (k * 2 + 1); obtain ⟨bz, oz, mz, cz, Az, mz2, cz2, w0, w1, _⟩ := hS7.full hkn hr; dsimp only))
          all_goals
            have h7 : n7 = n := by have := q7.1; omega
            obtain ⟨b9, o9, rfl, _⟩ := q7.2 (by omega)
            have HS7 := Lib.hid (hS7.put hkn (RowIs.mk (c := c7) (c2 := c8) q7 q8 l7 l8))
            have hgt : g ≠ w.heap.size := by omega
            have hblk : ∃ cs, Blk w7 g 58 cs ∧ NoBytes cs := by
              obtain ⟨cs, h1, h2, h3, _⟩ := hS7
              exact ⟨_, h2, NoBytes.sl h3⟩
            obtain ⟨csb, hcsb, hnb⟩ := hblk
            have HF7 := Lib.hid ((hF.step kB7).far2 (i := k * 2) (j := k * 2 + 1) (x := .slice (some ⟨b9, o9, none⟩) n7 c7) (y := .slice A8 n8 c8) hcsb hnb (Ne.symm hgt))
            have HG7 := Lib.hid (grown_setCell (i := k * 2 + 1) (grown_setCell (i := k * 2) (grown_trans hgr (grown_of_below kB7 (some g))) (.slice (some ⟨b9, o9, none⟩) n7 c7)) (.slice A8 n8 c8))
            clear hS7 hF hgr hS q7 q8 w0 w1 hfa hfb z0 z1 y0 y1 hcsb h7
            go_wp2_with fail
            go_roundw
            case rel => exact ⟨k + 1, _, by omega, by go_num, HN, HK2, HS7.out, HF7.out, HG7.out⟩
            case measure => simp [intOf]; omega
        · obtain rfl : k = l := by omega
          have hkn : k < n := by omega
          obtain ⟨r, hr, r2, r3, _⟩ := HI.out k hkn
          obtain ⟨b, of, m1, c1, A2, m2, c2, z0, z1, rr⟩ := hS.full hkn hr
          obtain ⟨q1, q2, _, _⟩ := rr.parts
          obtain ⟨⟨A9, m9, c9, hcell⟩, hfz⟩ := hF.cell hkn
          have HU2 := Lib.hid HI.out.done
          have HK3 : Hid (Kept n k st (updF f k r.2)) := Lib.hid (HK.out.put hr)
          have hrl : r.2.length = m2 := q2.1
          have HF9 := Lib.hid (hF.put (c := c2) hkn hrl q2)
          have hblk := hF
          obtain ⟨csf, _, hcsf, hnf, _⟩ := hblk
          have HS9 := Lib.hid (hS.far1 (x := .slice A2 m2 c2) (i := k) hcsf (NoBytes.sl hnf) (by omega))
          have HG9 : Hid (w.grownBy (wr.setCell ⟨w.heap.size, k, none⟩ (.slice A2 m2 c2)) (some g)) := Lib.hid ⟨hgr.os, hgr.tape, hgr.output, by simpa [World.setCell] using hgr.size, fun q hq hne => (Below.heap_setCell wr _ _ q (by simp; omega)).trans (hgr.block q hq hne)⟩
          clear hF hcsf HI HK hgr hS q1 q2 rr
          go_wp2_with fail
          go_roundw
          case rel => exact ⟨k, st, _, by omega, rfl, HU2, HK3, HS9.out, HF9.out, HG9.out⟩
          case measure => simp [intOf]
end Go.Proofs.Ytilelmejpbnbnaa
