import Derived.Test.YtaidbcppecoenaaVec
/- Rows, by value: what is made of them. -/
namespace Go.Proofs.Ytaidbcppecoenaa
open Go.RowKit
set_option linter.unusedVariables false
set_option maxRecDepth 100000

/-- The value reads as a row. -/
def RowIs (w : World) (r : List UInt8 × List UInt8) (x : Value) : Prop :=
  ∃ A n c A2 n2 c2, x = .agg #[.slice A n c, .slice A2 n2 c2] ∧ Rd w w.heap.size A n r.1 ∧ Rd w w.heap.size A2 n2 r.2 ∧ n ≤ 140737488355327 ∧ n2 ≤ 140737488355327
theorem RowIs.step {w w' : World} {r : List UInt8 × List UInt8} {x : Value} (h : RowIs w r x) (hb : Below w.heap.size w w') : RowIs w' r x := by
  obtain ⟨A, n, c, A2, n2, c2, e, h1, h2, l⟩ := h
  exact ⟨A, n, c, A2, n2, c2, e, h1.step hb, h2.step hb, l⟩
/-- A row is answered. -/
def RowEnds (r : List UInt8 × List UInt8) (w : World) (e : Ending) (w' : World) : Prop := ∃ x, e = .returned x ∧ RowIs w' r x ∧ Below w.heap.size w w'
theorem RowEnds.mk {w w' : World} {r : List UInt8 × List UInt8} {A A2 : Option Addr} {n c n2 c2 : Nat} (h1 : Rd w' w'.heap.size A n r.1) (h2 : Rd w' w'.heap.size A2 n2 r.2) (l1 : n ≤ 140737488355327) (l2 : n2 ≤ 140737488355327) (hb : Below w.heap.size w w') :
    RowEnds r w (.returned (.agg #[.slice A n c, .slice A2 n2 c2])) w' := ⟨_, rfl, ⟨_, _, _, _, _, _, rfl, h1, h2, l1, l2⟩, hb⟩

/-- Bytes do not lie in a block whose cells hold no bytes. -/
def NoBytes (cs : Array Value) : Prop := ∀ (i : Nat) (v : Value) (u : UInt8), cs[i]? = some v → v ≠ Value.int .u8 (bv u)
theorem NoBytes.two {A A2 : Option Addr} {n n2 c c2 : Nat} : NoBytes #[.slice A n c, .slice A2 n2 c2] := by
  intro i v u h e
  subst e
  match i, h with
  | 0, h => simp at h
  | 1, h => simp at h
  | i + 2, h => simp at h
theorem Rd.far {w w' : World} {B n g : Nat} {A : Option Addr} {us : List UInt8} {T : TypeId} {cs : Array Value} (h : Rd w B A n us) (hg : Blk w g T cs) (hn : NoBytes cs) (hk : ∀ p : Addr, p.block ≠ g → w'.cell? p = w.cell? p) : Rd w' B A n us :=
  ⟨h.1, fun hp => by
    obtain ⟨b, off, e, hb, hc⟩ := h.2 hp
    refine ⟨b, off, e, hb, fun i u hu => ?_⟩
    have h1 := hc i u hu
    rw [hk ⟨b, off + i, none⟩ ?_]
    · exact h1
    · intro hbg
      simp only at hbg
      subst hbg
      rw [hg.cell] at h1
      exact hn _ _ u h1 rfl⟩
theorem Rd.set2 {w : World} {B n g : Nat} {A : Option Addr} {us : List UInt8} {T : TypeId} {cs : Array Value} {x y : Value} (h : Rd w B A n us) (hg : Blk w g T cs) (hn : NoBytes cs) : Rd ((w.setCell ⟨g, 0, none⟩ x).setCell ⟨g, 1, none⟩ y) B A n us :=
  h.far hg hn fun p hp => by
    rw [World.cell?_setCell_far _ _ _ _ (fun e => hp e.symm), World.cell?_setCell_far _ _ _ _ (fun e => hp e.symm)]
theorem Blk.two {w : World} {g : Nat} {T : TypeId} {x y x0 y0 : Value} (hg : Blk w g T #[x0, y0]) : Blk ((w.setCell ⟨g, 0, none⟩ x).setCell ⟨g, 1, none⟩ y) g T #[x, y] := by
  have := (hg.set 0 x).set 1 y
  simpa using this
theorem cells2 {w : World} {g : Nat} {T : TypeId} {x y : Value} (h : Blk w g T #[x, y]) : w.cell? ⟨g, 0, none⟩ = some x ∧ w.cell? ⟨g, 1, none⟩ = some y ∧ w.frozen? ⟨g, 0, none⟩ = false ∧ w.frozen? ⟨g, 1, none⟩ = false := by
  refine ⟨?_, ?_, h.frozen 0, h.frozen 1⟩
  · rw [h.cell]; rfl
  · rw [h.cell]; rfl
/-- What stands behind the last store: only block g has changed. -/
structure Last (g : Nat) (T : TypeId) (x y : Value) (w W : World) : Prop where
  blk : Blk W g T #[x, y]
  far : ∀ p : Addr, p.block ≠ g → W.cell? p = w.cell? p
  size : W.heap.size = w.heap.size
  below : ∀ B w0, B ≤ g → Below B w0 w → Below B w0 W
theorem Last.row {g : Nat} {T : TypeId} {x y x0 y0 : Value} {w W : World} {n : Nat} {A : Option Addr} {us : List UInt8} (hl : Last g T x y w W) (h : Rd w w.heap.size A n us) (hg : Blk w g T #[x0, y0]) (hn : NoBytes #[x0, y0]) : Rd W W.heap.size A n us :=
  (h.far hg hn hl.far).more (by rw [hl.size]; exact Nat.le_refl _)
theorem end_row {fn : Func} {R : Ending → World → Prop} {a : Act} {w : World} {g : Nat} {T : TypeId} {x y x0 y0 v : Value} (hg : Blk w g T #[x0, y0])
    (hr : ∀ W : World, W.cell? ⟨g, 0, none⟩ = some x → W.cell? ⟨g, 1, none⟩ = some y → (results fn a.tmps).run Try.prog W = .ok v W) (hd : a.defers = []) (h : ∀ W, Last g T x y w W → R (.returned v) W) :
    bodyPost Try.prog fn R .ret a ((w.setCell ⟨g, 0, none⟩ x).setCell ⟨g, 1, none⟩ y) := by
  have hG := hg.two (x := x) (y := y)
  obtain ⟨e0, e1, _, _⟩ := cells2 hG
  refine bodyPost_ret (hr _ e0 e1) hd (h _ ⟨hG, fun p hp => ?_, by simp [World.setCell], fun B w0 hB hb => (hb.setCell hB _).setCell hB _⟩)
  rw [World.cell?_setCell_far _ _ _ _ (fun e => hp e.symm), World.cell?_setCell_far _ _ _ _ (fun e => hp e.symm)]
theorem vof_any {A A2 : Option Addr} {n c n2 c2 : Nat} {us vs : List UInt8} {w : World} (h1 : Rd w w.heap.size A n us) (h2 : Rd w w.heap.size A2 n2 vs) (l1 : n ≤ 140737488355327) (l2 : n2 ≤ 140737488355327) :
    Calls Try.prog 48 #[.slice A n c, .slice A2 n2 c2] w (RowEnds (us, vs) w) := by
  have hb0 := balloc w (.cells #[.slice none 0 0, .slice none 0 0] 58)
  have q1 := h1.step hb0
  have q2 := h2.step hb0
  have hg := Blk.new w 58 #[.slice none 0 0, .slice none 0 0]
  have hz : w.heap.size < (w.alloc (.cells #[.slice none 0 0, .slice none 0 0] 58)).heap.size := by simp
  clear h1 h2
  go_enter Try.func48, Try.ntmps48
  go_wp2_with fail
  refine (clone_any q1 (Nat.le_refl _) l1).mono ?_
  rintro e w1 ⟨A', c', rfl, r1, b1⟩
  replace q2 := q2.step b1
  replace hg := hg.below b1 hz
  replace hz := Nat.lt_of_lt_of_le hz b1.size
  replace hb0 := bstep hb0 b1
  clear b1 q1
  go_wp2_with fail
  refine (clone_any q2 (Nat.le_refl _) l2).mono ?_
  rintro e w2 ⟨A2', c2', rfl, r2, b2⟩
  replace r1 := r1.step b2
  replace hg := hg.below b2 hz
  replace hz := Nat.lt_of_lt_of_le hz b2.size
  replace hb0 := bstep hb0 b2
  clear b2 q2
  have hc0 := hg.cell 0
  have hc1 := hg.cell 1
  have hf0 := hg.frozen 0
  have hf1 := hg.frozen 1
  simp only [List.getElem?_toArray, List.getElem?_cons_zero, List.getElem?_cons_succ] at hc0 hc1
  go_wp2_with fail
  refine end_row (v := .agg #[.slice A' n c', .slice A2' n2 c2']) hg (by intro W e0 e1; simp [results, Try.results48, go_sem, e0, e1]) rfl fun W hl => ?_
  exact RowEnds.mk (hl.row r1 hg NoBytes.two) (hl.row r2 hg NoBytes.two) l1 l2 (hl.below _ _ (Nat.le_refl _) hb0)
theorem two_alloc {w : World} {T T2 : TypeId} {cs cs2 : Array Value} : Below w.heap.size w ((w.alloc (.cells cs T)).alloc (.cells cs2 T2)) ∧ Blk ((w.alloc (.cells cs T)).alloc (.cells cs2 T2)) w.heap.size T cs ∧ Blk ((w.alloc (.cells cs T)).alloc (.cells cs2 T2)) (w.heap.size + 1) T2 cs2 := by
  refine ⟨by go_grown, (Blk.new w T cs).alloc _, ?_⟩
  have := Blk.new (w.alloc (.cells cs T)) T2 cs2
  simpa using this
def sameR (r s : List UInt8 × List UInt8) : Bool := (r.1 == s.1) && (r.2 == s.2)
theorem vsame_any {A A2 A3 A4 : Option Addr} {n c n2 c2 n3 c3 n4 c4 : Nat} {r s : List UInt8 × List UInt8} {w : World} (h1 : Rd w w.heap.size A n r.1) (h2 : Rd w w.heap.size A2 n2 r.2) (h3 : Rd w w.heap.size A3 n3 s.1) (h4 : Rd w w.heap.size A4 n4 s.2) :
    Calls Try.prog 50 #[.agg #[.slice A n c, .slice A2 n2 c2], .agg #[.slice A3 n3 c3, .slice A4 n4 c4]] w fun e w' => e = .returned (.bool (sameR r s)) ∧ Below w.heap.size w w' := by
  obtain ⟨hb0, hx, hg⟩ := two_alloc (w := w) (T := 58) (T2 := 58) (cs := #[.slice A n c, .slice A2 n2 c2]) (cs2 := #[.slice A3 n3 c3, .slice A4 n4 c4])
  have q1 := h1.step hb0
  have q2 := h2.step hb0
  have q3 := h3.step hb0
  have q4 := h4.step hb0
  cases e : (r.1 == s.1)
  · have He := Lib.hid e
    clear e
    go_enter Try.func50, Try.ntmps50
    go_wp2_with fail
    refine (bequal_any q1 q3).mono ?_
    rintro e w1 ⟨rfl, rfl⟩
    rw [He.out]
    go_wp2_with fail
    go_ret
    exact ⟨by unfold sameR; rw [He.out]; rfl, hb0⟩
  · have He := Lib.hid e
    clear e
    go_enter Try.func50, Try.ntmps50
    go_wp2_with fail
    refine (bequal_any q1 q3).mono ?_
    rintro e w1 ⟨rfl, rfl⟩
    rw [He.out]
    go_wp2_with fail
    refine (bequal_any q2 q4).mono ?_
    rintro e w1 ⟨rfl, rfl⟩
    go_wp2_with fail
    go_ret
    exact ⟨by unfold sameR; rw [He.out, Bool.true_and]; rfl, hb0⟩
theorem rclone_any {A A2 : Option Addr} {n c n2 c2 : Nat} {us vs : List UInt8} {w : World} (h1 : Rd w w.heap.size A n us) (h2 : Rd w w.heap.size A2 n2 vs) (l1 : n ≤ 140737488355327) (l2 : n2 ≤ 140737488355327) :
    Calls Try.prog 61 #[.agg #[.slice A n c, .slice A2 n2 c2]] w (RowEnds (us, vs) w) := by
  obtain ⟨hb0, hx, hg⟩ := two_alloc (w := w) (T := 58) (T2 := 58) (cs := #[.slice A n c, .slice A2 n2 c2]) (cs2 := #[.slice none 0 0, .slice none 0 0])
  have q1 := h1.step hb0
  have q2 := h2.step hb0
  have hz : w.heap.size + 1 < ((w.alloc (.cells #[.slice A n c, .slice A2 n2 c2] 58)).alloc (.cells #[.slice none 0 0, .slice none 0 0] 58)).heap.size := by simp
  clear h1 h2
  go_enter Try.func61, Try.ntmps61
  go_wp2_with fail
  refine (vof_any q1 q2 l1 l2).mono ?_
  rintro e w1 ⟨x, rfl, ⟨A3, n3, c3, A4, n4, c4, rfl, r1, r2, l3, l4⟩, b1⟩
  replace hg := hg.below b1 hz
  replace hb0 := bstep hb0 b1
  clear b1 q1 q2 hx hz
  obtain ⟨hc0, hc1, hf0, hf1⟩ := cells2 hg
  go_wp2_with fail
  refine end_row (v := .agg #[.slice A3 n3 c3, .slice A4 n4 c4]) hg (by intro W e0 e1; simp [results, Try.results61, go_sem, e0, e1]) rfl fun W hl => ?_
  exact RowEnds.mk (hl.row r1 hg NoBytes.two) (hl.row r2 hg NoBytes.two) l3 l4 (hl.below _ _ (by omega) hb0)
end Go.Proofs.Ytaidbcppecoenaa

/- Norm and Less, and the document's own. -/
namespace Go.Proofs.Ytaidbcppecoenaa
open Go.RowKit
set_option linter.unusedVariables false
set_option maxRecDepth 100000

def normR (r : List UInt8 × List UInt8) : List UInt8 × List UInt8 := if leadI r.1 < 0 then r else (scaleL (ginv (atB r.1 (leadI r.1))) r.1, scaleL (ginv (atB r.1 (leadI r.1))) r.2)
theorem Rd.drew {w : World} {B n : Nat} {A : Option Addr} {us : List UInt8} (h : Rd w B A n us) : Rd w.drew B A n us := h
theorem Rd.dd {w : World} {n : Nat} {A : Option Addr} {us : List UInt8} (h : Rd w w.heap.size A n us) : Rd w.drew w.drew.heap.size A n us := h.step (Below.refl _ _).drew
theorem at_minus (us : List UInt8) : atB us (-1) = 0 := by simp [atB]
theorem at_lead {us : List UInt8} (h : ¬ leadI us < 0) : atB us (leadI us) ≠ 0 := by
  have h1 := lead_bounds us
  have h2 := lead_get (us := us) (by omega)
  unfold atB
  rw [if_pos (by omega)]
  exact h2
theorem norm_any {A A2 : Option Addr} {n c n2 c2 : Nat} {r : List UInt8 × List UInt8} {w : World} (h1 : Rd w w.heap.size A n r.1) (h2 : Rd w w.heap.size A2 n2 r.2) (l1 : n ≤ 140737488355327) (l2 : n2 ≤ 140737488355327) :
    Calls Try.prog 65 #[.agg #[.slice A n c, .slice A2 n2 c2]] w (RowEnds (normR r) w) := by
  obtain ⟨hb0, hx, hg⟩ := two_alloc (w := w) (T := 58) (T2 := 58) (cs := #[.slice A n c, .slice A2 n2 c2]) (cs2 := #[.slice none 0 0, .slice none 0 0])
  have q1 := h1.step hb0
  have q2 := h2.step hb0
  have lb := lead_bounds r.1
  have hl := h1.1
  have hz : w.heap.size + 1 < ((w.alloc (.cells #[.slice A n c, .slice A2 n2 c2] 58)).alloc (.cells #[.slice none 0 0, .slice none 0 0] 58)).heap.size := by simp
  obtain ⟨hc0, hc1, hf0, hf1⟩ := cells2 hx
  have CA := fun w1 B q => at_any (w := w1) (c := c) (q : Rd w1 B A n r.1) (by omega) (leadI r.1) (by omega) (by omega)
  have CL := fun w1 B q => lead_any (w := w1) (c := c) (q : Rd w1 B A n r.1) (by omega)
  by_cases hlead : leadI r.1 < 0
  · have e1 : leadI r.1 = -1 := by omega
    have e2 : normR r = r := by simp [normR, hlead]
    rw [e1] at CL CA
    rw [at_minus] at CA
    rw [e2]
    clear e2 e1 hlead lb hl h1 h2
    go_enter Try.func65, Try.ntmps65
    go_wp2_with fail
    go_region_held3 (fun w' => w'.cell? ⟨w.heap.size, 0, none⟩ = some (.slice A n c)) (go_keep) (first | (go_at_call 78; refine (CL _ _ q1.drew).mono ?_; rintro e w' ⟨rfl, rfl⟩) | (go_at_call 82; refine (CA _ _ q1.drew).mono ?_; rintro e w' ⟨rfl, rfl⟩) | (go_at_call 86; refine (inv_zero _).mono ?_; rintro e w' ⟨rfl, rfl⟩))
    go_wp2_with fail
    refine (rclone_any q1.dd q2.dd l1 l2).mono ?_
    rintro e w1 ⟨x, rfl, ⟨A3, n3, c3, A4, n4, c4, rfl, r1, r2, l3, l4⟩, b1⟩
    replace hg := hg.drew.below b1 hz
    replace hb0 := bstep hb0.drew b1
    clear b1 q1 q2 hx hz hc0 hc1 hf0 hf1
    obtain ⟨hc0, hc1, hf0, hf1⟩ := cells2 hg
    go_wp2_with fail
    refine end_row (v := .agg #[.slice A3 n3 c3, .slice A4 n4 c4]) hg (by intro W e0 e1; simp [results, Try.results65, go_sem, e0, e1]) rfl fun W hl => ?_
    exact RowEnds.mk (hl.row r1 hg NoBytes.two) (hl.row r2 hg NoBytes.two) l3 l4 (hl.below _ _ (by omega) hb0)
  · have e2 : normR r = (scaleL (ginv (atB r.1 (leadI r.1))) r.1, scaleL (ginv (atB r.1 (leadI r.1))) r.2) := by simp [normR, hlead]
    have hat := at_lead hlead
    rw [e2]
    generalize atB r.1 (leadI r.1) = x at *
    generalize leadI r.1 = k at *
    clear e2 hlead lb hl h1 h2
    go_enter Try.func65, Try.ntmps65
    go_wp2_with fail
    go_region_held3 (fun w' => w'.cell? ⟨w.heap.size, 0, none⟩ = some (.slice A n c)) (go_keep) (first | (go_at_call 78; refine (CL _ _ q1.drew).mono ?_; rintro e w' ⟨rfl, rfl⟩) | (go_at_call 82; refine (CA _ _ q1.drew).mono ?_; rintro e w' ⟨rfl, rfl⟩) | (go_at_call 86; refine (inv_some _ hat _).mono ?_; rintro e w' ⟨rfl, rfl⟩))
    go_wp2_with fail
    clear CA CL
    have q1' := q1.dd.dd
    have q2' := q2.dd.dd
    have hb0' := hb0.drew.drew
    have hg' := hg.drew.drew
    have hx' := hx.drew.drew
    have hz0 := Nat.lt_of_succ_lt hz
    clear q1 q2 hg hx hb0 hc0 hc1 hf0 hf1
    obtain ⟨hc0, hc1, hf0, hf1⟩ := cells2 hx'
    obtain ⟨hd0, hd1, he0, he1⟩ := cells2 hg'
    go_region_held3 (fun w' => w'.cell? ⟨w.heap.size, 0, none⟩ = some (.slice A n c) ∧ w'.cell? ⟨w.heap.size, 1, none⟩ = some (.slice A2 n2 c2)) (first | exact ⟨hc0, hc1⟩ | exact ⟨kc0, kc1⟩ | exact ⟨mc0, mc1⟩ | go_keep) (first | (go_at_call 87; (with_reducible refine (kscale_says (ginv x) q1' (Nat.le_refl _) (by omega)).mono ?_); rintro e w1 ⟨A3, c3, rfl, r1, b1⟩; have kx := hx'.below b1 hz0; have kg := hg'.below b1 hz; have kb := bstep hb0' b1; have kq2 := q2'.step b1; obtain ⟨kc0, kc1, kf0, kf1⟩ := cells2 kx; obtain ⟨kd0, kd1, ke0, ke1⟩ := cells2 kg) | (go_at_call 87; refine (kscale_says (ginv x) kq2 (Nat.le_refl _) (by omega)).mono ?_; rintro e w2 ⟨A4, c4, rfl, r2, b2⟩; have mx := kx.below b2 (Nat.lt_of_lt_of_le hz0 b1.size); have mg := kg.below b2 (Nat.lt_of_lt_of_le hz b1.size); have mb := bstep kb b2; have mr1 := r1.step b2; obtain ⟨mc0, mc1, mf0, mf1⟩ := cells2 mx; obtain ⟨md0, md1, me0, me1⟩ := cells2 mg))
    go_wp2_with fail
    refine end_row (v := .agg #[.slice A3 n c3, .slice A4 n2 c4]) mg (by intro W e0 e1; simp [results, Try.results65, go_sem, e0, e1]) rfl fun W hl => ?_
    exact RowEnds.mk (hl.row mr1 mg NoBytes.two) (hl.row r2 mg NoBytes.two) l1 l2 (hl.below _ _ (by omega) mb)

/-- A row and a code are answered. -/
def RowEnds2 (r : (List UInt8 × List UInt8) × Int) (w : World) (e : Ending) (w' : World) : Prop := ∃ x, e = .returned (.tuple #[x, .int .i64 r.2]) ∧ RowIs w' r.1 x ∧ Below w.heap.size w w'
theorem RowEnds2.mk {w w' : World} {r : List UInt8 × List UInt8} {k : Int} {A A2 : Option Addr} {n c n2 c2 : Nat} (h1 : Rd w' w'.heap.size A n r.1) (h2 : Rd w' w'.heap.size A2 n2 r.2) (l1 : n ≤ 140737488355327) (l2 : n2 ≤ 140737488355327) (hb : Below w.heap.size w w') :
    RowEnds2 (r, k) w (.returned (.tuple #[.agg #[.slice A n c, .slice A2 n2 c2], .int .i64 k])) w' := ⟨_, rfl, ⟨_, _, _, _, _, _, rfl, h1, h2, l1, l2⟩, hb⟩
def lessR (r : List UInt8 × List UInt8) (x : UInt8) (o : List UInt8 × List UInt8) : (List UInt8 × List UInt8) × Int :=
  if o.1.length = r.1.length ∧ o.2.length = r.2.length then ((addL x o.1 r.1, addL x o.2 r.2), 0) else (([], []), 4)
theorem three_alloc {w : World} {T T2 T3 : TypeId} {cs cs2 cs3 : Array Value} : Below w.heap.size w (((w.alloc (.cells cs T)).alloc (.cells cs2 T2)).alloc (.cells cs3 T3)) ∧ Blk (((w.alloc (.cells cs T)).alloc (.cells cs2 T2)).alloc (.cells cs3 T3)) w.heap.size T cs ∧ Blk (((w.alloc (.cells cs T)).alloc (.cells cs2 T2)).alloc (.cells cs3 T3)) (w.heap.size + 1) T2 cs2 ∧ Blk (((w.alloc (.cells cs T)).alloc (.cells cs2 T2)).alloc (.cells cs3 T3)) (w.heap.size + 1 + 1) T3 cs3 ∧ w.heap.size + 2 < (((w.alloc (.cells cs T)).alloc (.cells cs2 T2)).alloc (.cells cs3 T3)).heap.size := by
  obtain ⟨h1, h2, h3⟩ := two_alloc (w := w) (T := T) (T2 := T2) (cs := cs) (cs2 := cs2)
  refine ⟨by go_grown, h2.alloc _, h3.alloc _, ?_, by simp⟩
  have := Blk.new ((w.alloc (.cells cs T)).alloc (.cells cs2 T2)) T3 cs3
  simpa using this
theorem vless_any {A A2 A3 A4 : Option Addr} {n c n2 c2 n3 c3 n4 c4 : Nat} {r o : List UInt8 × List UInt8} (x : UInt8) {w : World} (h1 : Rd w w.heap.size A n r.1) (h2 : Rd w w.heap.size A2 n2 r.2) (h3 : Rd w w.heap.size A3 n3 o.1) (h4 : Rd w w.heap.size A4 n4 o.2)
    (l1 : n ≤ 140737488355327) (l2 : n2 ≤ 140737488355327) (l3 : n3 ≤ 140737488355327) (l4 : n4 ≤ 140737488355327) :
    Calls Try.prog 83 #[.agg #[.slice A n c, .slice A2 n2 c2], .int .u8 (bv x), .agg #[.slice A3 n3 c3, .slice A4 n4 c4]] w (RowEnds2 (lessR r x o) w) := by
  obtain ⟨hb0, hx, hy, hg, hz⟩ := three_alloc (w := w) (T := 58) (T2 := 58) (T3 := 58) (cs := #[.slice A n c, .slice A2 n2 c2]) (cs2 := #[.slice A3 n3 c3, .slice A4 n4 c4]) (cs3 := #[.slice none 0 0, .slice none 0 0])
  have q1 := h1.step hb0
  have q2 := h2.step hb0
  have q3 := h3.step hb0
  have q4 := h4.step hb0
  have e1 := h1.1
  have e2 := h2.1
  have e3 := h3.1
  have e4 := h4.1
  have C1 := fun W q3 q1 l => axpy_all (w := W) (c := c3) (c2 := c) x (q3 : Rd W W.heap.size A3 n3 o.1) (q1 : Rd W W.heap.size A n r.1) (Nat.le_refl _) (Nat.le_refl _) l
  have C2 := fun W q4 q2 l => axpy_all (w := W) (c := c4) (c2 := c2) x (q4 : Rd W W.heap.size A4 n4 o.2) (q2 : Rd W W.heap.size A2 n2 r.2) (Nat.le_refl _) (Nat.le_refl _) l
  clear h1 h2 h3 h4
  by_cases d1 : n3 = n
  · have x1 : axpyR x o.1 r.1 = (addL x o.1 r.1, 0) := by simp [axpyR, e1, e3, d1]
    rw [x1] at C1
    have a1 : (addL x o.1 r.1).length = n := by rw [addL_length, e1]
    by_cases d2 : n4 = n2
    · have x2 : axpyR x o.2 r.2 = (addL x o.2 r.2, 0) := by simp [axpyR, e2, e4, d2]
      have x3 : lessR r x o = ((addL x o.1 r.1, addL x o.2 r.2), 0) := by simp [lessR, e1, e2, e3, e4, d1, d2]
      rw [x2] at C2
      rw [x3]
      have a2 : (addL x o.2 r.2).length = n2 := by rw [addL_length, e2]
      have A1 := Lib.hid a1
      have A2' := Lib.hid a2
      clear x1 x2 x3 e1 e2 e3 e4 a1 a2 d1 d2
      go_enter Try.func83, Try.ntmps83
      go_wp2_with fail
      refine (C1 _ q3 q1 (by omega)).mono ?_
      rintro e w1 ⟨B1, m1, k1, rfl, r1, s1, b1⟩
      clear C1
      generalize ((w.alloc (.cells #[.slice A n c, .slice A2 n2 c2] 58)).alloc (.cells #[.slice A3 n3 c3, .slice A4 n4 c4] 58)).alloc (.cells #[.slice none 0 0, .slice none 0 0] 58) = W at *
      replace q2 := q2.step b1
      replace q4 := q4.step b1
      replace hb0 := bstep hb0 b1
      replace hx := hx.below b1 (by omega)
      replace hy := hy.below b1 (by omega)
      replace hg := hg.below b1 (by omega)
      have hz1 := b1.size
      clear b1 q1 q3
      obtain ⟨hc0, hc1, hf0, hf1⟩ := cells2 hx
      obtain ⟨hd0, hd1, he0, he1⟩ := cells2 hy
      obtain ⟨hm0, hm1, hn0, hn1⟩ := cells2 hg
      go_wp2_with fail
      refine (C2 _ q4 q2 (by omega)).mono ?_
      rintro e w2 ⟨B2, m2, k2, rfl, r2, s2, b2⟩
      clear C2
      replace r1 := r1.step b2
      replace hb0 := bstep hb0 b2
      replace hg := hg.below b2 (by omega)
      clear hx hy b2 q2 q4 hc0 hc1 hf0 hf1 hd0 hd1 he0 he1 hm0 hm1 hn0 hn1
      obtain ⟨hc0, hc1, hf0, hf1⟩ := cells2 hg
      go_wp2_with fail
      refine end_row (v := .tuple #[.agg #[.slice B1 m1 k1, .slice B2 m2 k2], .int .i64 0]) hg (by intro W e0 e1; simp [results, Try.results83, go_sem, e0, e1]) rfl fun W hl => ?_
      exact RowEnds2.mk (hl.row r1 hg NoBytes.two) (hl.row r2 hg NoBytes.two) (by have h5 := r1.1; have h6 := A1.out; omega) (by have h5 := r2.1; have h6 := A2'.out; omega) (hl.below _ _ (by omega) hb0)
    · have x2 : axpyR x o.2 r.2 = ([], 4) := by simp [axpyR, e2, e4, d2]
      have x3 : lessR r x o = (([], []), 4) := by simp [lessR, e1, e2, e3, e4, d1, d2]
      rw [x2] at C2
      rw [x3]
      clear x1 x2 x3 e1 e2 e3 e4 a1 d1 d2
      go_enter Try.func83, Try.ntmps83
      go_wp2_with fail
      refine (C1 _ q3 q1 (by omega)).mono ?_
      rintro e w1 ⟨B1, m1, k1, rfl, r1, s1, b1⟩
      clear C1
      generalize ((w.alloc (.cells #[.slice A n c, .slice A2 n2 c2] 58)).alloc (.cells #[.slice A3 n3 c3, .slice A4 n4 c4] 58)).alloc (.cells #[.slice none 0 0, .slice none 0 0] 58) = W at *
      replace q2 := q2.step b1
      replace q4 := q4.step b1
      replace hb0 := bstep hb0 b1
      replace hx := hx.below b1 (by omega)
      replace hy := hy.below b1 (by omega)
      replace hg := hg.below b1 (by omega)
      have hz1 := b1.size
      clear b1 q1 q3
      obtain ⟨hc0, hc1, hf0, hf1⟩ := cells2 hx
      obtain ⟨hd0, hd1, he0, he1⟩ := cells2 hy
      obtain ⟨hm0, hm1, hn0, hn1⟩ := cells2 hg
      go_wp2_with fail
      refine (C2 _ q4 q2 (by omega)).mono ?_
      rintro e w2 ⟨B2, m2, k2, rfl, r2, s2, b2⟩
      clear C2
      replace hb0 := bstep hb0 b2
      replace hg := hg.below b2 (by omega)
      clear hx hy b2 q2 q4 hc0 hc1 hf0 hf1 hd0 hd1 he0 he1 hm0 hm1 hn0 hn1
      obtain ⟨hc0, hc1, hf0, hf1⟩ := cells2 hg
      go_wp2_with fail
      refine end_row (v := .tuple #[.agg #[.slice none 0 0, .slice none 0 0], .int .i64 4]) hg (by intro W e0 e1; simp [results, Try.results83, go_sem, e0, e1]) rfl fun W hl => ?_
      exact RowEnds2.mk Rd.nil Rd.nil (by omega) (by omega) (hl.below _ _ (by omega) hb0)
  · have x1 : axpyR x o.1 r.1 = ([], 4) := by simp [axpyR, e1, e3, d1]
    have x3 : lessR r x o = (([], []), 4) := by simp [lessR, e1, e3, d1]
    rw [x1] at C1
    rw [x3]
    clear x1 x3 e1 e2 e3 e4 d1
    go_enter Try.func83, Try.ntmps83
    go_wp2_with fail
    refine (C1 _ q3 q1 (by omega)).mono ?_
    rintro e w1 ⟨B1, m1, k1, rfl, r1, s1, b1⟩
    clear C1
    generalize ((w.alloc (.cells #[.slice A n c, .slice A2 n2 c2] 58)).alloc (.cells #[.slice A3 n3 c3, .slice A4 n4 c4] 58)).alloc (.cells #[.slice none 0 0, .slice none 0 0] 58) = W at *
    replace q2 := q2.step b1
    replace q4 := q4.step b1
    replace hb0 := bstep hb0 b1
    replace hx := hx.below b1 (by omega)
    replace hy := hy.below b1 (by omega)
    replace hg := hg.below b1 (by omega)
    have hz1 := b1.size
    clear b1 q1 q3
    obtain ⟨hc0, hc1, hf0, hf1⟩ := cells2 hx
    obtain ⟨hd0, hd1, he0, he1⟩ := cells2 hy
    obtain ⟨hm0, hm1, hn0, hn1⟩ := cells2 hg
    go_wp2_with fail
    refine end_row (v := .tuple #[.agg #[.slice none 0 0, .slice none 0 0], .int .i64 4]) hg (by intro W e0 e1; simp [results, Try.results83, go_sem, e0, e1]) rfl fun W hl => ?_
    exact RowEnds2.mk Rd.nil Rd.nil (by omega) (by omega) (hl.below _ _ (by omega) hb0)
end Go.Proofs.Ytaidbcppecoenaa

/- The calls on rows, each by a value that reads as a row. -/
namespace Go.Proofs.Ytaidbcppecoenaa
open Go.RowKit
set_option linter.unusedVariables false
set_option maxRecDepth 100000

theorem RowEnds.of {w w1 w2 : World} {r : List UInt8 × List UInt8} {x : Value} (h : RowIs w1 r x) (hb1 : Below w.heap.size w w1) : RowEnds r w (.returned x) w1 := ⟨x, rfl, h, hb1⟩
theorem c_norm {w : World} {r : List UInt8 × List UInt8} {x : Value} (h : RowIs w r x) : Calls Try.prog 65 #[x] w (RowEnds (normR r) w) := by
  obtain ⟨A, n, c, A2, n2, c2, rfl, h1, h2, l1, l2⟩ := h
  exact norm_any h1 h2 l1 l2
theorem c_clone {w : World} {r : List UInt8 × List UInt8} {x : Value} (h : RowIs w r x) : Calls Try.prog 61 #[x] w (RowEnds r w) := by
  obtain ⟨A, n, c, A2, n2, c2, rfl, h1, h2, l1, l2⟩ := h
  exact rclone_any h1 h2 l1 l2
theorem c_same {w : World} {r s : List UInt8 × List UInt8} {x y : Value} (h : RowIs w r x) (k : RowIs w s y) : Calls Try.prog 50 #[x, y] w fun e w' => e = .returned (.bool (sameR r s)) ∧ Below w.heap.size w w' := by
  obtain ⟨A, n, c, A2, n2, c2, rfl, h1, h2, l1, l2⟩ := h
  obtain ⟨A3, n3, c3, A4, n4, c4, rfl, h3, h4, l3, l4⟩ := k
  exact vsame_any h1 h2 h3 h4
theorem sameR_self (r : List UInt8 × List UInt8) : sameR r r = true := by simp [sameR]
theorem c_same_self {w : World} {r : List UInt8 × List UInt8} {x y : Value} (h : RowIs w r x) (k : RowIs w r y) : Calls Try.prog 50 #[x, y] w fun e w' => e = .returned (.bool true) ∧ Below w.heap.size w w' := by
  have := c_same h k
  rwa [sameR_self] at this
theorem c_less {w : World} {r o : List UInt8 × List UInt8} {x y : Value} (a : UInt8) (h : RowIs w r x) (k : RowIs w o y) : Calls Try.prog 83 #[x, .int .u8 (bv a), y] w (RowEnds2 (lessR r a o) w) := by
  obtain ⟨A, n, c, A2, n2, c2, rfl, h1, h2, l1, l2⟩ := h
  obtain ⟨A3, n3, c3, A4, n4, c4, rfl, h3, h4, l3, l4⟩ := k
  exact vless_any a h1 h2 h3 h4 l1 l2 l3 l4
/-- A block that holds a row. -/
def Holds (w : World) (g : Nat) (T : TypeId) (r : List UInt8 × List UInt8) : Prop := ∃ A n c A2 n2 c2, Blk w g T #[.slice A n c, .slice A2 n2 c2] ∧ RowIs w r (.agg #[.slice A n c, .slice A2 n2 c2])
theorem Holds.step {w w' : World} {g : Nat} {T : TypeId} {r : List UInt8 × List UInt8} (h : Holds w g T r) (hb : Below w.heap.size w w') : Holds w' g T r := by
  obtain ⟨A, n, c, A2, n2, c2, h1, h2⟩ := h
  exact ⟨A, n, c, A2, n2, c2, h1.below hb h1.lt, h2.step hb⟩
/-- A variable that was made, and given a row. -/
theorem Holds.new {w : World} {T : TypeId} {r : List UInt8 × List UInt8} {A A2 : Option Addr} {n c n2 c2 : Nat} (h : RowIs w r (.agg #[.slice A n c, .slice A2 n2 c2])) : Holds (w.alloc (.cells #[.slice A n c, .slice A2 n2 c2] T)) w.heap.size T r :=
  ⟨A, n, c, A2, n2, c2, Blk.new _ _ _, h.step (balloc _ _)⟩
/-- A variable that was made before the row came. -/
theorem Holds.set {w : World} {T : TypeId} {r : List UInt8 × List UInt8} {g : Nat} {A A2 : Option Addr} {n c n2 c2 : Nat} (hg : Blk w g T #[.slice none 0 0, .slice none 0 0]) (h : RowIs w r (.agg #[.slice A n c, .slice A2 n2 c2])) : Holds ((w.setCell ⟨g, 0, none⟩ (.slice A n c)).setCell ⟨g, 1, none⟩ (.slice A2 n2 c2)) g T r := by
  obtain ⟨A', n', c', A2', n2', c2', e, h1, h2, l1, l2⟩ := h
  have hs : ((w.setCell ⟨g, 0, none⟩ (.slice A n c)).setCell ⟨g, 1, none⟩ (.slice A2 n2 c2)).heap.size = w.heap.size := by simp [World.setCell]
  injection e with e
  simp only [Array.mk.injEq, List.cons.injEq, Value.slice.injEq, and_true] at e
  obtain ⟨⟨rfl, rfl, rfl⟩, rfl, rfl, rfl⟩ := e
  refine ⟨_, _, _, _, _, _, hg.two, _, _, _, _, _, _, rfl, ?_, ?_, l1, l2⟩
  · exact (h1.set2 hg NoBytes.two).more (by rw [hs]; exact Nat.le_refl _)
  · exact (h2.set2 hg NoBytes.two).more (by rw [hs]; exact Nat.le_refl _)
end Go.Proofs.Ytaidbcppecoenaa

