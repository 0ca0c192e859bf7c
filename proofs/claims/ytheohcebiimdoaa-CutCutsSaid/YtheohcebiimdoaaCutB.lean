import Derived.Test.YtheohcebiimdoaaCut
/- Contracts of package cut: Symbol, Spread. -/
namespace Go.Proofs.Ytheohcebiimdoaa
open Go.RowKit
set_option linter.unusedVariables false
set_option maxRecDepth 100000

theorem csym_bad {l s k d i : Int} {A : Option Addr} {n c : Nat} {w : World} (l2 : l ≤ 9223372036854775807) (h : fitC l s k n ≠ 0) :
    Calls Try.prog 10 #[pv l s k d, .slice A n c, .int .i64 i] w (GridEnds (.tuple #[.slice none 0 0, .int .i64 (fitC l s k n)]) w) := by
  have hb := balloc w (.cells #[.int .i64 l, .int .i64 s, .int .i64 k, .int .u32 d] 24)
  have C := cfits_any (l := l) (s := s) (k := k) (d := d) (A := A) (n := n) (c := c) (w := w.alloc (.cells #[.int .i64 l, .int .i64 s, .int .i64 k, .int .u32 d] 24)) l2
  have t := ne_code h
  unfold pv at *
  clear h
  generalize fitC l s k n = m at *
  go_enter Try.func10, Try.ntmps10
  go_wp2_with fail
  with_reducible refine C.mono ?_
  rintro e w1 ⟨rfl, b1⟩
  clear C
  go_wp2_with fail
  go_ret2
  exact ⟨rfl, bstep hb b1⟩
theorem csym_out {l s k d i : Int} {A : Option Addr} {n c : Nat} {w : World} (l2 : l ≤ 9223372036854775807) (h : fitC l s k n = 0) (hi : i < 0 ∨ k ≤ i) :
    Calls Try.prog 10 #[pv l s k d, .slice A n c, .int .i64 i] w (GridEnds (.tuple #[.slice none 0 0, .int .i64 2]) w) := by
  have hb := balloc w (.cells #[.int .i64 l, .int .i64 s, .int .i64 k, .int .u32 d] 24)
  have hg := Blk.new w 24 #[.int .i64 l, .int .i64 s, .int .i64 k, .int .u32 d]
  have C := cfits_any (l := l) (s := s) (k := k) (d := d) (A := A) (n := n) (c := c) (w := w.alloc (.cells #[.int .i64 l, .int .i64 s, .int .i64 k, .int .u32 d] 24)) l2
  rw [h] at C
  unfold pv at *
  clear h
  by_cases h0 : i < 0
  · clear hi
    go_enter Try.func10, Try.ntmps10
    go_wp2_with fail
    with_reducible refine C.mono ?_
    rintro e w1 ⟨rfl, b1⟩
    clear C
    go_wp2_with fail
    go_ret2
    exact ⟨rfl, bstep hb b1⟩
  · have h1 : 0 ≤ i := by omega
    have h2 : k ≤ i := by omega
    clear hi h0
    go_enter Try.func10, Try.ntmps10
    go_wp2_with fail
    with_reducible refine C.mono ?_
    rintro e w1 ⟨rfl, b1⟩
    obtain ⟨a0, a1, a2, a3, _⟩ := cells4 (hg.below b1 hg.lt)
    clear C
    go_wp2_with fail
    go_ret2
    exact ⟨rfl, bstep hb b1⟩
theorem csym_ok {A : Option Addr} {n c S K i : Nat} {d : Int} {us : List UInt8} {w : World} (h : Rd w w.heap.size A n us) (hc : n ≤ c) (hcc : c ≤ 9223372036854775807) (hf : fitC n S K n = 0) (hi : i < K) :
    Calls Try.prog 10 #[pv n S K d, .slice A n c, .int .i64 (i : Int)] w fun e w' => ∃ g, e = .returned (.tuple #[.slice (some ⟨g, 0, none⟩) S S, .int .i64 0]) ∧ Blk w' g 5 (bvs (symL S us i)).toArray ∧ Below w.heap.size w w' := by
  have hb := balloc w (.cells #[.int .i64 n, .int .i64 S, .int .i64 K, .int .u32 d] 24)
  have hg := Blk.new w 24 #[.int .i64 n, .int .i64 S, .int .i64 K, .int .u32 d]
  have C := cfits_any (l := n) (s := S) (k := K) (d := d) (A := A) (n := n) (c := c) (w := w.alloc (.cells #[.int .i64 n, .int .i64 S, .int .i64 K, .int .u32 d] 24)) (by omega)
  rw [hf] at C
  obtain ⟨L', S', K', e1, e2, e3, p1, p2, p3, p4, p5, p6, p7⟩ := plan_nat (fit_ok hf).1
  have e1' : n = L' := by omega
  have e2' : S = S' := by omega
  have e3' : K = K' := by omega
  subst e1' e2' e3'
  have HC : Hid (∀ V, Below w.heap.size w V → Calls Try.prog 24 #[.agg #[.int .i64 n, .int .i64 S, .int .i64 K, .int .u32 d], .slice A n c, .int .i64 (i : Int)] V (SymEnds S (symL S us i) V)) := Lib.hid fun V hV =>
    cstretch_any (h.step hV) hc hcc p2 (by omega) (below_plan p6 p7 hi)
  have t : decide ((K : Int) ≤ (i : Int)) = false := by simp; omega
  clear e1 e2 e3 hf p5 p6 p7 h
  unfold pv at C ⊢
  go_enter Try.func10, Try.ntmps10
  go_wp2_with fail
  with_reducible refine C.mono ?_
  rintro e w1 ⟨rfl, b1⟩
  replace hb := bstep hb b1
  have C := HC.out w1 hb
  obtain ⟨a0, a1, a2, a3, _⟩ := cells4 (hg.below b1 hg.lt)
  go_wp2_with fail
  with_reducible refine C.mono ?_
  rintro e w2 ⟨g, rfl, hu, _, b2⟩
  clear C a0 a1 a2 a3
  go_wp2_with fail
  go_ret2
  exact ⟨g, rfl, hu, bstep hb b2⟩
/-! ### Spread -/
end Go.Proofs.Ytheohcebiimdoaa
