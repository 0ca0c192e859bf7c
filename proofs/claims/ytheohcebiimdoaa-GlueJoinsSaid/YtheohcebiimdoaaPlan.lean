import Derived.Test.YtheohcebiimdoaaPlanM
import Derived.Test.YtheohcebiimdoaaFill
import Derived.WalkLawsBesides
/- Contracts of package plan: what a plan's numbers come to. -/
namespace Go.Proofs.Ytheohcebiimdoaa
open Go.RowKit
set_option linter.unusedVariables false
set_option maxRecDepth 100000

theorem cells4 {w : World} {g : Nat} {T : TypeId} {x y z u : Value} (h : Blk w g T #[x, y, z, u]) : w.cell? ⟨g, 0, none⟩ = some x ∧ w.cell? ⟨g, 1, none⟩ = some y ∧ w.cell? ⟨g, 2, none⟩ = some z ∧ w.cell? ⟨g, 3, none⟩ = some u ∧ w.frozen? ⟨g, 0, none⟩ = false ∧ w.frozen? ⟨g, 1, none⟩ = false ∧ w.frozen? ⟨g, 2, none⟩ = false ∧ w.frozen? ⟨g, 3, none⟩ = false :=
  ⟨h.cell 0, h.cell 1, h.cell 2, h.cell 3, h.frozen 0, h.frozen 1, h.frozen 2, h.frozen 3⟩
set_option maxHeartbeats 400000 in
theorem pneeds_any {l s k d : Int} {w : World} (l1 : 0 ≤ l) (l2 : l ≤ 9223372036854775807) (s1 : 1 ≤ s) (s2 : s ≤ 65535) :
    Calls Try.prog 27 #[pv l s k d] w (GridEnds (.int .i64 (needsN l s)) w) := by
  have hb := balloc w (.cells #[.int .i64 l, .int .i64 s, .int .i64 k, .int .u32 d] 24)
  unfold pv
  by_cases h : 1 ≤ l
  · have q0 : 0 ≤ (l - 1) / s := Int.ediv_nonneg (by omega) (by omega)
    have q1 : (l - 1) / s ≤ 9223372036854775806 := by have := Int.ediv_le_self (a := l - 1) s (by omega); omega
    have He : Hid ((l - 1) / s + 1 = needsN l s) := Lib.hid (by
      unfold needsN
      by_cases h1 : l ≤ 1
      · obtain rfl : l = 1 := by omega
        simp
      · rw [if_neg h1])
    go_enter Try.func27, Try.ntmps27
    go_wp2_with fail
    rw [He.out]
    go_ret
    exact ⟨rfl, hb⟩
  · obtain rfl : l = 0 := by omega
    have He : Hid (needsN 0 s = 1) := Lib.hid (needs_small (by omega))
    clear h
    go_enter Try.func27, Try.ntmps27
    go_wp2_with fail
    rw [He.out]
    go_ret
    exact ⟨rfl, hb⟩
theorem pbounds_any {l s k d : Int} {w : World} (l2 : l ≤ 9223372036854775807) :
    Calls Try.prog 26 #[pv l s k d] w (GridEnds (.int .i64 (boundsC l s)) w) := by
  have hb := balloc w (.cells #[.int .i64 l, .int .i64 s, .int .i64 k, .int .u32 d] 24)
  have HN := Lib.hid fun (w : World) h1 h2 h3 => pneeds_any (l := l) (s := s) (k := k) (d := d) (w := w) h1 l2 h2 h3
  unfold pv at *
  by_cases c1 : l < 0
  · have e : boundsC l s = 2 := by simp [boundsC, c1]
    rw [e]
    clear e
    go_enter Try.func26, Try.ntmps26
    go_wp2_with fail
    go_ret
    exact ⟨rfl, hb⟩
  · have d1 : 0 ≤ l := by omega
    by_cases c2 : s < 1
    · have e : boundsC l s = 4 := by simp [boundsC, c1, c2]
      rw [e]
      clear e c1
      go_enter Try.func26, Try.ntmps26
      go_wp2_with fail
      go_ret
      exact ⟨rfl, hb⟩
    · have d2 : 1 ≤ s := by omega
      by_cases c3 : 65535 < s
      · have e : boundsC l s = 4 := by simp [boundsC, c1, c3]
        rw [e]
        clear e c1 c2
        go_enter Try.func26, Try.ntmps26
        go_wp2_with fail
        go_ret
        exact ⟨rfl, hb⟩
      · have d3 : s ≤ 65535 := by omega
        have e : boundsC l s = if 4096 < needsN l s then 5 else 0 := by simp [boundsC, c1, c2, c3]
        have C := HN.out (w.alloc (.cells #[.int .i64 l, .int .i64 s, .int .i64 k, .int .u32 d] 24)) d1 d2 d3
        rw [e]
        clear e c1 c2 c3 HN
        generalize needsN l s = n at *
        by_cases c4 : 4096 < n
        · rw [if_pos c4]
          go_enter Try.func26, Try.ntmps26
          go_wp2_with fail
          refine C.mono ?_
          rintro e w' ⟨rfl, b1⟩
          go_wp2_with fail
          go_ret
          exact ⟨rfl, bstep hb b1⟩
        · rw [if_neg c4]
          have d4 : n ≤ 4096 := by omega
          clear c4
          go_enter Try.func26, Try.ntmps26
          go_wp2_with fail
          refine C.mono ?_
          rintro e w' ⟨rfl, b1⟩
          go_wp2_with fail
          go_ret
          exact ⟨rfl, bstep hb b1⟩
theorem ne_code {a : Int} (h : a ≠ 0) : (a != 0) = true := by rw [bne_iff_ne]; exact h
set_option maxHeartbeats 400000 in
theorem pcheck_any {l s k d : Int} {w : World} (l2 : l ≤ 9223372036854775807) :
    Calls Try.prog 28 #[pv l s k d] w (GridEnds (.int .i64 (codeC l s k)) w) := by
  have hb := balloc w (.cells #[.int .i64 l, .int .i64 s, .int .i64 k, .int .u32 d] 24)
  have hg := Blk.new w 24 #[.int .i64 l, .int .i64 s, .int .i64 k, .int .u32 d]
  have HN := Lib.hid fun (w : World) h1 h2 h3 => pneeds_any (l := l) (s := s) (k := k) (d := d) (w := w) h1 l2 h2 h3
  have C := pbounds_any (l := l) (s := s) (k := k) (d := d) (w := w.alloc (.cells #[.int .i64 l, .int .i64 s, .int .i64 k, .int .u32 d] 24)) l2
  unfold pv at *
  by_cases c0 : boundsC l s = 0
  · obtain ⟨k1, k2, k3, k4, k5⟩ := bounds_ok c0
    have C2 := Lib.hid fun w => HN.out w k1 k2 k3
    have e : codeC l s k = if k = needsN l s then 0 else 14 := by simp [codeC, c0]
    rw [c0] at C
    rw [e]
    clear HN e c0
    generalize needsN l s = n at *
    by_cases c5 : k = n
    · have t : (k != n) = false := by rw [c5]; simp
      rw [if_pos c5]
      clear c5
      go_enter Try.func28, Try.ntmps28
      go_wp2_with fail
      with_reducible refine C.mono ?_
      rintro e w1 ⟨rfl, b1⟩
      replace hg := hg.below b1 hg.lt
      replace hb := bstep hb b1
      clear C b1
      have HS : Hid (∀ W, Below w1.heap.size w1 W → Below w1.heap.size w1 W ∧ W.cell? ⟨w.heap.size, 0, none⟩ = some (.int .i64 l) ∧ W.cell? ⟨w.heap.size, 1, none⟩ = some (.int .i64 s) ∧ W.cell? ⟨w.heap.size, 2, none⟩ = some (.int .i64 k) ∧ W.cell? ⟨w.heap.size, 3, none⟩ = some (.int .u32 d)) := Lib.hid fun W hW => by
        obtain ⟨a, b, c, d, _⟩ := cells4 (hg.below hW hg.lt)
        exact ⟨hW, a, b, c, d⟩
      go_wp2_with fail
      go_region_held3 (fun W => Below w1.heap.size w1 W ∧ W.cell? ⟨w.heap.size, 0, none⟩ = some (.int .i64 l) ∧ W.cell? ⟨w.heap.size, 1, none⟩ = some (.int .i64 s) ∧ W.cell? ⟨w.heap.size, 2, none⟩ = some (.int .i64 k) ∧ W.cell? ⟨w.heap.size, 3, none⟩ = some (.int .u32 d))
        ((refine HS.out _ ?_; first | exact (Below.refl _ _).drew | assumption))
        ((go_at_call 27; (with_reducible refine (C2.out _).mono ?_); rintro e w7 ⟨rfl, b7⟩; have kB7 := bstep (And.left ‹Below w1.heap.size w1 _ ∧ _›) b7))
      go_wp2_with fail
      go_ret
      exact ⟨rfl, bstep hb kB7⟩
    · have t : (k != n) = true := by rw [bne_iff_ne]; exact c5
      rw [if_neg c5]
      clear c5
      go_enter Try.func28, Try.ntmps28
      go_wp2_with fail
      with_reducible refine C.mono ?_
      rintro e w1 ⟨rfl, b1⟩
      replace hg := hg.below b1 hg.lt
      replace hb := bstep hb b1
      clear C b1
      have HS : Hid (∀ W, Below w1.heap.size w1 W → Below w1.heap.size w1 W ∧ W.cell? ⟨w.heap.size, 0, none⟩ = some (.int .i64 l) ∧ W.cell? ⟨w.heap.size, 1, none⟩ = some (.int .i64 s) ∧ W.cell? ⟨w.heap.size, 2, none⟩ = some (.int .i64 k) ∧ W.cell? ⟨w.heap.size, 3, none⟩ = some (.int .u32 d)) := Lib.hid fun W hW => by
        obtain ⟨a, b, c, d, _⟩ := cells4 (hg.below hW hg.lt)
        exact ⟨hW, a, b, c, d⟩
      go_wp2_with fail
      go_region_held3 (fun W => Below w1.heap.size w1 W ∧ W.cell? ⟨w.heap.size, 0, none⟩ = some (.int .i64 l) ∧ W.cell? ⟨w.heap.size, 1, none⟩ = some (.int .i64 s) ∧ W.cell? ⟨w.heap.size, 2, none⟩ = some (.int .i64 k) ∧ W.cell? ⟨w.heap.size, 3, none⟩ = some (.int .u32 d))
        ((refine HS.out _ ?_; first | exact (Below.refl _ _).drew | assumption))
        ((go_at_call 27; (with_reducible refine (C2.out _).mono ?_); rintro e w7 ⟨rfl, b7⟩; have kB7 := bstep (And.left ‹Below w1.heap.size w1 _ ∧ _›) b7))
      go_wp2_with fail
      go_ret
      exact ⟨rfl, bstep hb kB7⟩
  · have e : codeC l s k = boundsC l s := code_bounds c0 k
    rw [e]
    have t := ne_code c0
    clear e HN c0
    generalize boundsC l s = n at *
    go_enter Try.func28, Try.ntmps28
    go_wp2_with fail
    refine C.mono ?_
    rintro e w1 ⟨rfl, b1⟩
    replace hb := bstep hb b1
    clear C b1
    go_wp2_with fail
    go_ret
    exact ⟨rfl, hb⟩
structure Last4 (g : Nat) (T : TypeId) (x y z u : Value) (w W : World) : Prop where
  blk : Blk W g T #[x, y, z, u]
  far : ∀ p : Addr, p.block ≠ g → W.cell? p = w.cell? p
  size : W.heap.size = w.heap.size
  below : ∀ B w0, B ≤ g → Below B w0 w → Below B w0 W
theorem Blk.four {w : World} {g : Nat} {T : TypeId} {x y z u x0 y0 z0 u0 : Value} (hg : Blk w g T #[x0, y0, z0, u0]) : Blk ((((w.setCell ⟨g, 0, none⟩ x).setCell ⟨g, 1, none⟩ y).setCell ⟨g, 2, none⟩ z).setCell ⟨g, 3, none⟩ u) g T #[x, y, z, u] := by
  have := (((hg.set 0 x).set 1 y).set 2 z).set 3 u
  simpa using this
theorem end_plan {fn : Func} {R : Ending → World → Prop} {a : Act} {w : World} {g : Nat} {T : TypeId} {x y z u x0 y0 z0 u0 v : Value} (hg : Blk w g T #[x0, y0, z0, u0])
    (hr : ∀ W : World, W.cell? ⟨g, 0, none⟩ = some x → W.cell? ⟨g, 1, none⟩ = some y → W.cell? ⟨g, 2, none⟩ = some z → W.cell? ⟨g, 3, none⟩ = some u → (results fn a.tmps).run Try.prog W = .ok v W) (hd : a.defers = []) (h : ∀ W, Last4 g T x y z u w W → R (.returned v) W) :
    bodyPost Try.prog fn R .ret a ((((w.setCell ⟨g, 0, none⟩ x).setCell ⟨g, 1, none⟩ y).setCell ⟨g, 2, none⟩ z).setCell ⟨g, 3, none⟩ u) := by
  have hG := hg.four (x := x) (y := y) (z := z) (u := u)
  obtain ⟨e0, e1, e2, e3, _⟩ := cells4 hG
  refine bodyPost_ret (hr _ e0 e1 e2 e3) hd (h _ ⟨hG, fun p hp => ?_, by simp [World.setCell], fun B w0 hB hb => (((hb.setCell hB _).setCell hB _).setCell hB _).setCell hB _⟩)
  rw [World.cell?_setCell_far _ _ _ _ (fun e => hp e.symm), World.cell?_setCell_far _ _ _ _ (fun e => hp e.symm), World.cell?_setCell_far _ _ _ _ (fun e => hp e.symm), World.cell?_setCell_far _ _ _ _ (fun e => hp e.symm)]
theorem plans_alloc {w : World} {T T2 : TypeId} {cs cs2 : Array Value} : Below w.heap.size w ((w.alloc (.cells cs T)).alloc (.cells cs2 T2)) ∧ Blk ((w.alloc (.cells cs T)).alloc (.cells cs2 T2)) w.heap.size T cs ∧ Blk ((w.alloc (.cells cs T)).alloc (.cells cs2 T2)) (w.heap.size + 1) T2 cs2 := two_alloc
set_option maxHeartbeats 400000 in
theorem pof_ok {l s d : Int} {w : World} (l2 : l ≤ 9223372036854775807) (h : boundsC l s = 0) :
    Calls Try.prog 13 #[.int .i64 l, .int .i64 s, .int .u32 d] w (GridEnds (.tuple #[pv l s (needsN l s) d, .int .i64 0]) w) := by
  obtain ⟨hb, hg, hg2⟩ := plans_alloc (w := w) (T := 24) (T2 := 24) (cs := #[.int .i64 0, .int .i64 0, .int .i64 0, .int .u32 0]) (cs2 := #[.int .i64 l, .int .i64 s, .int .i64 0, .int .u32 d])
  obtain ⟨k1, k2, k3, k4, k5⟩ := bounds_ok h
  have CN := Lib.hid fun w => pneeds_any (l := l) (s := s) (k := 0) (d := d) (w := w) k1 l2 k2 k3
  have C := Lib.hid fun w => pbounds_any (l := l) (s := s) (k := 0) (d := d) (w := w) l2
  rw [h] at C
  unfold pv at *
  clear h
  generalize needsN l s = n at *
  go_enter Try.func13, Try.ntmps13
  go_wp2_with fail
  generalize (w.alloc (.cells #[.int .i64 0, .int .i64 0, .int .i64 0, .int .u32 0] 24)).alloc (.cells #[.int .i64 l, .int .i64 s, .int .i64 0, .int .u32 d] 24) = V at *
  refine (C.out V).mono ?_
  rintro e w1 ⟨rfl, b1⟩
  replace hg := hg.below b1 hg.lt
  replace hg2 := hg2.below b1 hg2.lt
  replace hb := bstep hb b1
  clear C b1
  obtain ⟨c0, c1, c2, c3, f0, f1, f2, f3⟩ := cells4 hg2
  go_wp2_with fail
  refine (CN.out w1).mono ?_
  rintro e w2 ⟨rfl, b1⟩
  replace hg := hg.below b1 hg.lt
  replace hg2 := hg2.below b1 hg2.lt
  replace hb := bstep hb b1
  clear CN b1 c0 c1 c2 c3 f0 f1 f2 f3
  have hg3 := hg2.set 2 (.int .i64 n)
  replace hg := hg.far (p := (⟨w.heap.size + 1, 2, none⟩ : Addr)) (by simp) (.int .i64 n)
  have HB := Lib.hid (hb.setCell (p := (⟨w.heap.size + 1, 2, none⟩ : Addr)) (by simp) (.int .i64 n))
  obtain ⟨c0, c1, c2, c3, f0, f1, f2, f3⟩ := cells4 hg2
  have hlt := hg2.lt
  have hlt1 := hg.lt
  clear hg2 hb
  obtain ⟨d0, d1, d2, d3, e0, e1, e2, e3⟩ := cells4 hg
  obtain ⟨y0, y1, y2, y3, _⟩ := cells4 (x := .int .i64 l) (y := .int .i64 s) (z := .int .i64 n) (u := .int .u32 d) (by simpa using hg3)
  clear hg3
  go_wp2_with fail
  refine end_plan (v := .tuple #[.agg #[.int .i64 l, .int .i64 s, .int .i64 n, .int .u32 d], .int .i64 0]) hg (by intro W z0 z1 z2 z3; simp [results, Try.results13, go_sem, z0, z1, z2, z3]) rfl fun W hl => ?_
  exact ⟨rfl, hl.below _ _ (Nat.le_refl _) HB.out⟩
def roomC (l s k : Int) : Int := if codeC l s k = 0 then k * s else 0
def padC (l s k : Int) : Int := if codeC l s k = 0 then k * s - l else 0
theorem room_mul {S K : Nat} (h2 : S ≤ 65535) (h4 : K ≤ 4096) : K * S ≤ 268431360 := by
  have := Nat.mul_le_mul h4 h2
  omega
theorem proom_any {l s k d : Int} {w : World} (l2 : l ≤ 9223372036854775807) :
    Calls Try.prog 14 #[pv l s k d] w (GridEnds (.int .i64 (roomC l s k)) w) := by
  have hb := balloc w (.cells #[.int .i64 l, .int .i64 s, .int .i64 k, .int .u32 d] 24)
  have hg := Blk.new w 24 #[.int .i64 l, .int .i64 s, .int .i64 k, .int .u32 d]
  have C := pcheck_any (l := l) (s := s) (k := k) (d := d) (w := w.alloc (.cells #[.int .i64 l, .int .i64 s, .int .i64 k, .int .u32 d] 24)) l2
  by_cases h : codeC l s k = 0
  · obtain ⟨L, S, K, rfl, rfl, rfl, n1, n2, n3, n4, _⟩ := plan_nat h
    have hr : roomC L S K = ((K * S : Nat) : Int) := by simp [roomC, h]
    have hm := room_mul n2 n4
    have hw : wrap64 ((K : Int) * (S : Int)) = ((K * S : Nat) : Int) := by
      rw [← Int.natCast_mul]; exact IntWalk.wrap64_in _ ⟨by omega, by omega⟩
    rw [hr]
    rw [h] at C
    unfold pv at *
    clear h hr hm
    generalize K * S = p at *
    go_enter Try.func14, Try.ntmps14
    go_wp2_with fail
    with_reducible refine C.mono ?_
    rintro e w1 ⟨rfl, b1⟩
    replace hg := hg.below b1 hg.lt
    replace hb := bstep hb b1
    clear C b1
    obtain ⟨d0, d1, d2, d3, e0, e1, e2, e3⟩ := cells4 hg
    go_wp2_with fail
    rw [hw]
    go_ret
    exact ⟨rfl, hb⟩
  · have hr : roomC l s k = 0 := by simp [roomC, h]
    have t := ne_code h
    rw [hr]
    unfold pv at *
    clear h hr
    generalize codeC l s k = n at *
    go_enter Try.func14, Try.ntmps14
    go_wp2_with fail
    with_reducible refine C.mono ?_
    rintro e w1 ⟨rfl, b1⟩
    go_wp2_with fail
    go_ret
    exact ⟨rfl, bstep hb b1⟩
theorem ppad_any {l s k d : Int} {w : World} (l2 : l ≤ 9223372036854775807) :
    Calls Try.prog 30 #[pv l s k d] w (GridEnds (.int .i64 (padC l s k)) w) := by
  have hb := balloc w (.cells #[.int .i64 l, .int .i64 s, .int .i64 k, .int .u32 d] 24)
  have hg := Blk.new w 24 #[.int .i64 l, .int .i64 s, .int .i64 k, .int .u32 d]
  have C := pcheck_any (l := l) (s := s) (k := k) (d := d) (w := w.alloc (.cells #[.int .i64 l, .int .i64 s, .int .i64 k, .int .u32 d] 24)) l2
  have C2 := Lib.hid fun w => proom_any (l := l) (s := s) (k := k) (d := d) (w := w) l2
  by_cases h : codeC l s k = 0
  · obtain ⟨L, S, K, rfl, rfl, rfl, n1, n2, n3, n4, n5, _⟩ := plan_nat h
    have hr : roomC L S K = ((K * S : Nat) : Int) := by simp [roomC, h]
    have hp : padC L S K = ((K * S : Nat) : Int) - L := by simp [padC, h]
    have hm := room_mul n2 n4
    have hm1 : ((K * S : Nat) : Int) ≤ 268431360 := by omega
    have hm2 : (L : Int) ≤ ((K * S : Nat) : Int) := by omega
    rw [hp]
    rw [h] at C
    rw [hr] at C2
    unfold pv at *
    clear h hr hm hp n5
    generalize K * S = p at *
    have hwp : IntKind.i64.wrap ((p : Int) - (L : Int)) = (p : Int) - (L : Int) := IntWalk.i64_in _ ⟨by omega, by omega⟩
    go_enter Try.func30, Try.ntmps30
    go_wp2_with fail
    with_reducible refine C.mono ?_
    rintro e w1 ⟨rfl, b1⟩
    replace hg := hg.below b1 hg.lt
    replace hb := bstep hb b1
    clear C b1
    have HS : Hid (∀ W, Below w1.heap.size w1 W → Below w1.heap.size w1 W ∧ W.cell? ⟨w.heap.size, 0, none⟩ = some (.int .i64 L) ∧ W.cell? ⟨w.heap.size, 1, none⟩ = some (.int .i64 S) ∧ W.cell? ⟨w.heap.size, 2, none⟩ = some (.int .i64 K) ∧ W.cell? ⟨w.heap.size, 3, none⟩ = some (.int .u32 d)) := Lib.hid fun W hW => by
      obtain ⟨a, b, c, d, _⟩ := cells4 (hg.below hW hg.lt)
      exact ⟨hW, a, b, c, d⟩
    go_wp2_with fail
    go_region_held3 (fun W => Below w1.heap.size w1 W ∧ W.cell? ⟨w.heap.size, 0, none⟩ = some (.int .i64 L) ∧ W.cell? ⟨w.heap.size, 1, none⟩ = some (.int .i64 S) ∧ W.cell? ⟨w.heap.size, 2, none⟩ = some (.int .i64 K) ∧ W.cell? ⟨w.heap.size, 3, none⟩ = some (.int .u32 d))
      ((refine HS.out _ ?_; first | exact (Below.refl _ _).drew | assumption))
      ((go_at_call 14; (with_reducible refine (C2.out _).mono ?_); rintro e w7 ⟨rfl, b7⟩; have kB7 := bstep (And.left ‹Below w1.heap.size w1 _ ∧ _›) b7))
    go_wp2_with fail
    go_ret
    exact ⟨rfl, bstep hb kB7⟩
  · have hr : padC l s k = 0 := by simp [padC, h]
    have t := ne_code h
    rw [hr]
    unfold pv at *
    clear h hr C2
    generalize codeC l s k = n at *
    go_enter Try.func30, Try.ntmps30
    go_wp2_with fail
    with_reducible refine C.mono ?_
    rintro e w1 ⟨rfl, b1⟩
    go_wp2_with fail
    go_ret
    exact ⟨rfl, bstep hb b1⟩
end Go.Proofs.Ytheohcebiimdoaa
