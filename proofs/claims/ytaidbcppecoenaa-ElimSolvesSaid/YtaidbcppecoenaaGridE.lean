import Derived.Test.YtaidbcppecoenaaGridD
import Derived.Test.YtaidbcppecoenaaMat
import Derived.Test.YtaidbcppecoenaaVecM
/- Stairs: a row put on them. -/
namespace Go.Proofs.Ytaidbcppecoenaa
open Go.RowKit
set_option linter.unusedVariables false
set_option maxRecDepth 100000

abbrev RowL := List UInt8 × List UInt8
/-- Block g holds n rows; those that st names read as it says, the others are nil. -/
def Stairs (w : World) (g n : Nat) (st : Nat → Option RowL) : Prop :=
  ∃ cs : List Value, cs.length = n * 2 ∧ Blk w g 58 cs.toArray ∧ (∀ v ∈ cs, IsSl v) ∧ ∀ i, i < n →
    (st i = none ∧ cs[i * 2]? = some (.slice none 0 0) ∧ cs[i * 2 + 1]? = some (.slice none 0 0)) ∨
    ∃ r b o m c A2 m2 c2, st i = some r ∧ cs[i * 2]? = some (.slice (some ⟨b, o, none⟩) m c) ∧ cs[i * 2 + 1]? = some (.slice A2 m2 c2) ∧ RowIs w r (.agg #[.slice (some ⟨b, o, none⟩) m c, .slice A2 m2 c2])
theorem Stairs.lt {w : World} {g n : Nat} {st : Nat → Option RowL} (h : Stairs w g n st) : g < w.heap.size := by
  obtain ⟨cs, _, h2, _⟩ := h
  exact h2.lt
theorem Stairs.step {w w' : World} {g n : Nat} {st : Nat → Option RowL} (h : Stairs w g n st) (hb : Below w.heap.size w w') : Stairs w' g n st := by
  obtain ⟨cs, h1, h2, h3, h4⟩ := h
  refine ⟨cs, h1, h2.below hb h2.lt, h3, fun i hi => ?_⟩
  rcases h4 i hi with h | ⟨r, b, o, m, c, A2, m2, c2, e1, e2, e3, e4⟩
  · exact .inl h
  · exact .inr ⟨r, b, o, m, c, A2, m2, c2, e1, e2, e3, e4.step hb⟩
theorem Stairs.free {w : World} {g n : Nat} {st : Nat → Option RowL} (h : Stairs w g n st) (k : Nat) : w.frozen? ⟨g, k, none⟩ = false := by
  obtain ⟨cs, h1, h2, _⟩ := h
  exact h2.frozen k
theorem Stairs.empty {w : World} {g n i : Nat} {st : Nat → Option RowL} (h : Stairs w g n st) (hi : i < n) (e : st i = none) : w.cell? ⟨g, i * 2, none⟩ = some (.slice none 0 0) ∧ w.cell? ⟨g, i * 2 + 1, none⟩ = some (.slice none 0 0) := by
  obtain ⟨cs, h1, h2, h3, h4⟩ := h
  rcases h4 i hi with ⟨_, e1, e2⟩ | ⟨r, b, o, m, c, A2, m2, c2, e1, _⟩
  · exact ⟨by rw [h2.cell]; simpa using e1, by rw [h2.cell]; simpa using e2⟩
  · rw [e] at e1; cases e1
theorem Stairs.full {w : World} {g n i : Nat} {st : Nat → Option RowL} {r : RowL} (h : Stairs w g n st) (hi : i < n) (e : st i = some r) : ∃ b o m c A2 m2 c2, w.cell? ⟨g, i * 2, none⟩ = some (.slice (some ⟨b, o, none⟩) m c) ∧ w.cell? ⟨g, i * 2 + 1, none⟩ = some (.slice A2 m2 c2) ∧ RowIs w r (.agg #[.slice (some ⟨b, o, none⟩) m c, .slice A2 m2 c2]) := by
  obtain ⟨cs, h1, h2, h3, h4⟩ := h
  rcases h4 i hi with ⟨e1, _⟩ | ⟨r', b, o, m, c, A2, m2, c2, e1, e2, e3, e4⟩
  · rw [e] at e1; cases e1
  · rw [e] at e1
    injection e1 with e1
    subst e1
    exact ⟨b, o, m, c, A2, m2, c2, by rw [h2.cell]; simpa using e2, by rw [h2.cell]; simpa using e3, e4⟩
def upd (st : Nat → Option RowL) (i : Nat) (r : RowL) : Nat → Option RowL := fun j => if j = i then some r else st j
theorem Rd.setTwo {w : World} {B n g i j : Nat} {A : Option Addr} {us : List UInt8} {T : TypeId} {cs : Array Value} {x y : Value} (h : Rd w B A n us) (hg : Blk w g T cs) (hn : NoBytes cs) : Rd ((w.setCell ⟨g, i, none⟩ x).setCell ⟨g, j, none⟩ y) B A n us :=
  h.far hg hn fun p hp => by
    rw [World.cell?_setCell_far _ _ _ _ (fun e => hp e.symm), World.cell?_setCell_far _ _ _ _ (fun e => hp e.symm)]
theorem RowIs.setTwo {w : World} {g i j : Nat} {r : RowL} {T : TypeId} {cs : Array Value} {x y z : Value} (h : RowIs w r z) (hg : Blk w g T cs) (hn : NoBytes cs) : RowIs ((w.setCell ⟨g, i, none⟩ x).setCell ⟨g, j, none⟩ y) r z := by
  obtain ⟨A, n, c, A2, n2, c2, rfl, h1, h2, l1, l2⟩ := h
  have hs : ((w.setCell ⟨g, i, none⟩ x).setCell ⟨g, j, none⟩ y).heap.size = w.heap.size := by simp [World.setCell]
  exact RowIs.mk ((h1.setTwo hg hn).more (by rw [hs]; exact Nat.le_refl _)) ((h2.setTwo hg hn).more (by rw [hs]; exact Nat.le_refl _)) l1 l2
theorem Holds.turn {w : World} {T : TypeId} {r : RowL} {g : Nat} {A A2 : Option Addr} {n c n2 c2 : Nat} {x0 y0 : Value} (hg : Blk w g T #[x0, y0]) (hn : NoBytes #[x0, y0]) (h : RowIs w r (.agg #[.slice A n c, .slice A2 n2 c2])) : Holds ((w.setCell ⟨g, 0, none⟩ (.slice A n c)).setCell ⟨g, 1, none⟩ (.slice A2 n2 c2)) g T r :=
  ⟨_, _, _, _, _, _, hg.two, h.setTwo hg hn⟩
theorem Stairs.far2 {w : World} {g n h : Nat} {st : Nat → Option RowL} {T : TypeId} {cs : Array Value} {i j : Nat} {x y : Value} (hS : Stairs w g n st) (hh : Blk w h T cs) (hn : NoBytes cs) (hne : g ≠ h) : Stairs ((w.setCell ⟨h, i, none⟩ x).setCell ⟨h, j, none⟩ y) g n st := by
  obtain ⟨cs', h1, h2, h3, h4⟩ := hS
  refine ⟨cs', h1, (h2.far (p := (⟨h, i, none⟩ : Addr)) hne x).far (p := (⟨h, j, none⟩ : Addr)) hne y, h3, fun k hk => ?_⟩
  rcases h4 k hk with h | ⟨r, b, o, m, c, A2, m2, c2, e1, e2, e3, e4⟩
  · exact .inl h
  · exact .inr ⟨r, b, o, m, c, A2, m2, c2, e1, e2, e3, e4.setTwo hh hn⟩
theorem Stairs.put {w : World} {g n i b o m c m2 c2 : Nat} {A2 : Option Addr} {st : Nat → Option RowL} {r : RowL} (h : Stairs w g n st) (hi : i < n) (hr : RowIs w r (.agg #[.slice (some ⟨b, o, none⟩) m c, .slice A2 m2 c2])) :
    Stairs ((w.setCell ⟨g, i * 2, none⟩ (.slice (some ⟨b, o, none⟩) m c)).setCell ⟨g, i * 2 + 1, none⟩ (.slice A2 m2 c2)) g n (upd st i r) := by
  obtain ⟨cs, h1, h2, h3, h4⟩ := h
  refine ⟨(cs.set (i * 2) (.slice (some ⟨b, o, none⟩) m c)).set (i * 2 + 1) (.slice A2 m2 c2), by simpa using h1, ?_, ?_, fun j hj => ?_⟩
  · have := (h2.set (i * 2) (.slice (some ⟨b, o, none⟩) m c)).set (i * 2 + 1) (.slice A2 m2 c2)
    simpa using this
  · intro v hv
    rcases List.mem_or_eq_of_mem_set hv with hv | rfl
    · rcases List.mem_or_eq_of_mem_set hv with hv | rfl
      · exact h3 v hv
      · exact ⟨_, _, _, rfl⟩
    · exact ⟨_, _, _, rfl⟩
  · by_cases hji : j = i
    · subst hji
      refine .inr ⟨r, b, o, m, c, A2, m2, c2, by simp [upd], ?_, ?_, hr.setTwo h2 (NoBytes.sl h3)⟩
      · rw [List.getElem?_set_ne (by omega), List.getElem?_set_self (by omega)]
      · rw [List.getElem?_set_self (by simp; omega)]
    · have e1 : ((cs.set (i * 2) (.slice (some ⟨b, o, none⟩) m c)).set (i * 2 + 1) (.slice A2 m2 c2))[j * 2]? = cs[j * 2]? := by
        rw [List.getElem?_set_ne (by omega), List.getElem?_set_ne (by omega)]
      have e2 : ((cs.set (i * 2) (.slice (some ⟨b, o, none⟩) m c)).set (i * 2 + 1) (.slice A2 m2 c2))[j * 2 + 1]? = cs[j * 2 + 1]? := by
        rw [List.getElem?_set_ne (by omega), List.getElem?_set_ne (by omega)]
      have e3 : upd st i r j = st j := by simp [upd, hji]
      rw [e1, e2, e3]
      rcases h4 j hj with h | ⟨r', b', o', m', c', A2', m2', c2', e1, e2, e3, e4⟩
      · exact .inl h
      · exact .inr ⟨r', b', o', m', c', A2', m2', c2', e1, e2, e3, e4.setTwo h2 (NoBytes.sl h3)⟩
theorem vrow_info : (Try.prog.info? 58).map (fun i => (i.zero, i.size, i.bytes)) = some (some (.agg #[.slice none 0 0, .slice none 0 0]), 2, 48) := by kernel_rfl
def nilRows (n : Nat) : List Value := List.replicate (n * 2) (.slice none 0 0)
theorem Stairs.new (w : World) (n : Nat) : Stairs (w.alloc (.cells (nilRows n).toArray 58)) w.heap.size n fun _ => none := by
  refine ⟨nilRows n, by simp [nilRows], Blk.new _ _ _, ?_, fun i hi => .inl ⟨rfl, ?_, ?_⟩⟩
  · intro v hv
    simp only [nilRows, List.mem_replicate] at hv
    exact ⟨_, _, _, hv.2⟩
  · rw [nilRows, List.getElem?_replicate, if_pos (by omega)]
  · rw [nilRows, List.getElem?_replicate, if_pos (by omega)]
theorem madeCells_two (z : Value) (n : Nat) : (madeCells #[z, z] n).toList = List.replicate n z := by
  apply List.ext_getElem?
  intro j
  by_cases hj : j < n
  · have h2 : j % 2 = 0 ∨ j % 2 = 1 := by omega
    rcases h2 with h2 | h2 <;> simp [madeCells, hj, h2]
  · simp [madeCells, hj]
theorem make_stairs (n : Nat) (hn : n ≤ 65536) (w : World) : (Instr.makeSlice 90 (.int .i64 (n : Int)) (.int .i64 (n : Int))).run Try.prog w =
    .ok (.slice (some ⟨w.heap.size, 0, none⟩) n n) (w.alloc (.cells (nilRows n).toArray 58)) := by
  obtain ⟨i0, hi0, hz0, hz1, hz2⟩ := info_parts vrow_info
  have h := run_make (P := Try.prog) w 90 58 i0 _ Try.underlying90 hi0 hz0 .i64 .i64 (n : Int) (n : Int) (by omega) (Int.le_refl _) (by rw [hz2]; omega) (by omega)
  rw [h]
  simp only [Int.toNat_natCast, hz1]
  have e : madeCells (Value.agg #[.slice none 0 0, .slice none 0 0]).cells (n * 2) = (nilRows n).toArray := by
    apply Array.ext'
    simp only [Value.cells]
    exact madeCells_two _ _
  rw [e]

/-! ### A row put on the stairs -/
/-- What is left of r, behind some stairs. -/
def Came (st : Nat → Option RowL) (r x : RowL) : Prop := x.1.length = r.1.length ∧ x.2.length = r.2.length ∧ ∃ l : List (Nat × RowL), (∀ p ∈ l, st p.1 = some p.2) ∧ x = l.foldl (fun r p => lessAt r p.2 p.1) r
theorem Came.refl (st : Nat → Option RowL) (r : RowL) : Came st r r := ⟨rfl, rfl, [], by simp, rfl⟩
theorem lessAt_len {r o : RowL} {i : Int} (h1 : o.1.length = r.1.length) (h2 : o.2.length = r.2.length) : (lessAt r o i).1.length = r.1.length ∧ (lessAt r o i).2.length = r.2.length := by
  unfold lessAt lessR
  rw [if_pos ⟨h1, h2⟩]
  exact ⟨addL_length _ _ _, addL_length _ _ _⟩
theorem Came.less {st : Nat → Option RowL} {r x o : RowL} {i : Nat} (h : Came st r x) (ho : st i = some o) (h1 : o.1.length = r.1.length) (h2 : o.2.length = r.2.length) : Came st r (lessAt x o i) := by
  obtain ⟨e1, e2, l, e3, e4⟩ := h
  obtain ⟨f1, f2⟩ := lessAt_len (r := x) (o := o) (i := i) (by omega) (by omega)
  refine ⟨by omega, by omega, l ++ [(i, o)], fun p hp => ?_, by rw [List.foldl_append, ← e4]; rfl⟩
  rcases List.mem_append.1 hp with hp | hp
  · exact e3 p hp
  · rw [List.mem_singleton.1 hp]; exact ho
/-- What came of a row: a part of it is left, that leads nowhere, or where there was no stair. -/
def Took (st : Nat → Option RowL) (n : Nat) (r : RowL) (g : Nat) (w : World) (e : Ending) (w' : World) : Prop :=
  ∃ x : RowL, Came st r x ∧ w.grownBy w' (some g) ∧
    ((leadI x.1 < 0 ∧ e = .returned (.bool false) ∧ Stairs w' g n st) ∨ ∃ i : Nat, leadI x.1 = (i : Int) ∧ i < n ∧ st i = none ∧ e = .returned (.bool true) ∧ Stairs w' g n (upd st i (normR x)))
/-- All rows have this size, and lead with a 1, each at its place. -/
def Sized (st : Nat → Option RowL) (n m : Nat) : Prop := ∀ i r, st i = some r → r.1.length = n ∧ r.2.length = m ∧ leadI r.1 = (i : Int) ∧ r.1[i]?.getD 0 = 1
theorem Took.no {st : Nat → Option RowL} {n g : Nat} {r x : RowL} {w w' : World} (h : Came st r x) (hn : leadI x.1 < 0) (hS : Stairs w' g n st) (hb : Below w.heap.size w w') : Took st n r g w (.returned (.bool false)) w' :=
  ⟨x, h, grown_of_below hb _, .inl ⟨hn, rfl, hS⟩⟩
theorem Took.yes {st : Nat → Option RowL} {n g i : Nat} {r x : RowL} {w w' : World} (h : Came st r x) (hn : leadI x.1 = (i : Int)) (hi : i < n) (e : st i = none) (hS : Stairs w' g n (upd st i (normR x))) (hb : w.grownBy w' (some g)) : Took st n r g w (.returned (.bool true)) w' :=
  ⟨x, h, hb, .inr ⟨i, hn, hi, e, rfl, hS⟩⟩
theorem eql_vec (w : World) (A : Option Addr) (n c : Nat) : (binOp .eql 56 (.slice A n c) (.slice none 0 0)).run Try.prog w = .ok (.bool A.isNone) w :=
  Lib.run_eql_slice_nil w _ _ A n c 0 0 Try.underlying56
def toGo (n : Nat) (v : Value) : Nat := if intOf v < 0 then 0 else (n + 1 - intOf v).toNat
theorem toGo_lt {n i : Nat} {z : Int} (hin : i < n) (h : (i : Int) < z ∨ z = -1) : toGo n (.int .i64 z) < toGo n (.int .i64 (i : Int)) := by
  have e : ∀ z : Int, intOf (.int .i64 z) = z := fun _ => rfl
  unfold toGo
  rw [e, e]
  split <;> split <;> omega
theorem take_any {w : World} {g n : Nat} {st : Nat → Option RowL} {r : RowL} {x : Value} (hS : Stairs w g n st) (hx : RowIs w r x) (hz : Sized st n r.2.length) (hl : r.1.length = n) (hn : n ≤ 65536) :
    Calls Try.prog 52 #[.slice (some ⟨g, 0, none⟩) n n, x] w (Took st n r g w) := by
  obtain ⟨A1, n1, c1, A2, n2, c2, rfl, p1, p2, l1, l2⟩ := hx
  have hb0 := balloc w (.cells #[.slice A1 n1 c1, .slice A2 n2 c2] 58)
  have hH : Holds _ w.heap.size 58 r := Holds.new (RowIs.mk (c := c1) (c2 := c2) p1 p2 l1 l2)
  have hS1 := hS.step hb0
  have q1 := (p1.step hb0)
  have hgl := hS.lt
  have Hz := Lib.hid hz
  have Hl := Lib.hid hl
  clear hS p1 p2 hz hl
  go_enter Try.func52, Try.ntmps52
  go_wp2_with fail
  refine (lead_any q1 (by omega)).mono ?_
  rintro e w' ⟨rfl, rfl⟩
  go_wp2_with fail
  go_loopw [5] (fun v wr => ∃ x : RowL, v = .int .i64 (leadI x.1) ∧ Hid (Came st r x) ∧ Stairs wr g n st ∧ Holds wr w.heap.size 58 x ∧ Below w.heap.size w wr) (fun v _ => toGo n v)
  case atStart => exact ⟨r, rfl, Lib.hid (Came.refl st r), hS1, hH, hb0⟩
  case round =>
    clear hb0 hH hS1 q1
    obtain ⟨x, rfl, hC, hS, hH, hb⟩ := hrel
    have hlb := lead_bounds x.1
    by_cases hneg : leadI x.1 < 0
    · have t : decide (0 ≤ leadI x.1) = false := by simp; omega
      have Hneg := Lib.hid hneg
      clear hneg hlb
      go_wp2_with fail
      go_ret
      exact Took.no hC.out Hneg.out hS hb
    · obtain ⟨i, hi⟩ : ∃ i : Nat, leadI x.1 = (i : Int) := ⟨(leadI x.1).toNat, by omega⟩
      have hin : i < n := by
        have h1 := hC.out.1
        have h2 := Hl.out
        omega
      have t : decide (0 ≤ leadI x.1) = true := by simp; omega
      rw [hi] at t ⊢
      have Hi := Lib.hid hi
      clear hi hlb hneg
      obtain ⟨A3, n3, c3, A4, n4, c4, b3, r3⟩ := hH
      obtain ⟨hc0, hc1, hf0, hf1⟩ := cells2 b3
      cases hst : st i with
      | none =>
        obtain ⟨he0, he1⟩ := hS.empty hin hst
        have hfr0 := hS.free (i * 2)
        have hfr1 := hS.free (i * 2 + 1)
        have hq := eql_vec wr none 0 0
        have Hst := Lib.hid hst
        clear hst
        go_wp2_with fail
        refine (c_norm r3).mono ?_
        rintro e w5 ⟨v5, rfl, ⟨A5, n5, c5, A6, n6, c6, rfl, q5, q6, l5, l6⟩, b5⟩
        have hlen : n5 = n := by
          have h1 := q5.1
          have h2 := (norm_len x).1
          have h3 := hC.out.1
          have h4 := Hl.out
          omega
        obtain ⟨b, o, rfl, _⟩ := q5.2 (by omega)
        have HP := Lib.hid ((hS.step b5).put hin (RowIs.mk (c := c5) (c2 := c6) q5 q6 l5 l6))
        have hfr0 := (hS.step b5).free (i * 2)
        have hfr1 := (hS.step b5).free (i * 2 + 1)
        obtain ⟨he0, he1⟩ := (hS.step b5).empty hin Hst.out
        have HB := Lib.hid (grown_setCell (i := i * 2 + 1) (grown_setCell (i := i * 2) (grown_of_below (bstep hb b5) (some g)) (.slice (some ⟨b, o, none⟩) n5 c5)) (.slice A6 n6 c6))
        clear hq hb hS b5 q5 q6 hlen hf0 hf1 hc0 hc1
        go_wp2_with fail
        go_ret
        exact Took.yes hC.out Hi.out hin Hst.out HP.out HB.out
      | some o =>
        obtain ⟨z1, z2, z3, z4⟩ := Hz.out i o hst
        obtain ⟨b, of, m, c, A5, m5, c5, he0, he1, ro⟩ := hS.full hin hst
        have hq := eql_vec wr (some ⟨b, of, none⟩) m c
        have HC := Lib.hid (hC.out.less hst (by rw [z1, Hl.out]) z2)
        have HT : Hid ((i : Int) < leadI (lessAt x o i).1 ∨ leadI (lessAt x o i).1 = -1) := Lib.hid (by
          have e1 : o.1.length = x.1.length := by rw [z1, hC.out.1, Hl.out]
          have e2 : o.2.length = x.2.length := by rw [z2, hC.out.2.1]
          have h5 := less_lead e1 z3 Hi.out z4
          unfold lessAt lessR
          rw [if_pos ⟨e1, e2⟩]
          unfold atB
          rw [if_pos (by rw [hC.out.1, Hl.out]; omega), Int.toNat_natCast]
          exact h5)
        clear z1 z2 z3 z4 hst
        go_wp2_with fail
        clear hq hf0 hf1 t
        have hi1 : -9223372036854775808 ≤ (i : Int) := by omega
        have hi2 : (i : Int) ≤ 9223372036854775807 := by omega
        go_still_tail 6, (by kernel_rfl)
        change wpList _ _ _ _ _ wr.drew
        have bd := (Below.refl wr.heap.size wr).drew
        replace hS := hS.step bd
        replace hb := bstep hb bd
        replace b3 := b3.drew
        replace r3 := r3.step bd
        replace ro := ro.step bd
        clear hc0 hc1 he0 he1 bd
        generalize wr.drew = wd at *
        go_wp2_with fail
        refine (gless_any (i : Int) r3 ro hi1 hi2).mono ?_
        rintro e w7 ⟨v7, rfl, ⟨A7, n7, c7, A8, n8, c8, rfl, q7, q8, l7, l8⟩, b7⟩
        replace hS := hS.step b7
        replace hb := bstep hb b7
        replace b3 := b3.below b7 b3.lt
        clear b7 r3 ro
        obtain ⟨hc0, hc1, hf0, hf1⟩ := cells2 b3
        generalize lessAt x o (i : Int) = y at *
        have r7 : RowIs w7 y (.agg #[.slice A7 n7 c7, .slice A8 n8 c8]) := RowIs.mk q7 q8 l7 l8
        have hH := Holds.turn b3 NoBytes.two r7
        have HW : Below w.heap.size w ((w7.setCell ⟨w.heap.size, 0, none⟩ (.slice A7 n7 c7)).setCell ⟨w.heap.size, 1, none⟩ (.slice A8 n8 c8)) := (hb.setCell (Nat.le_refl _) _).setCell (Nat.le_refl _) _
        have hS2 : Stairs ((w7.setCell ⟨w.heap.size, 0, none⟩ (.slice A7 n7 c7)).setCell ⟨w.heap.size, 1, none⟩ (.slice A8 n8 c8)) g n st := hS.far2 b3 NoBytes.two (by omega)
        have q7' := q7.set2 (x := .slice A7 n7 c7) (y := .slice A8 n8 c8) b3 NoBytes.two
        have hd0 : ((w7.setCell ⟨w.heap.size, 0, none⟩ (.slice A7 n7 c7)).setCell ⟨w.heap.size, 1, none⟩ (.slice A8 n8 c8)).cell? ⟨w.heap.size, 0, none⟩ = some (.slice A7 n7 c7) := (cells2 b3.two).1
        clear hS hb b3 r7 q7 q8 
        go_wp2_with fail
        refine (lead_any q7' (by omega)).mono ?_
        rintro e w' ⟨rfl, rfl⟩
        go_wp2_with fail
        go_roundw
        case rel => exact ⟨y, rfl, HC, hS2, hH, HW⟩
        case measure =>
          exact toGo_lt hin HT.out
end Go.Proofs.Ytaidbcppecoenaa

